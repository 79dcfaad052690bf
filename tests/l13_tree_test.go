package tests

import (
	"fmt"
	"math"
	"slices"
	"strings"
	"testing"

	"loop.example/g00261/impl"
)

func TestConstantsOfNames(t *testing.T) {
	if impl.MaxFiles != 60 || impl.MaxOps != 100 {
		t.Error("limits")
	}
	if impl.OpMake != 1 || impl.OpMkdir != 2 || impl.OpLink != 3 || impl.OpUnlink != 4 || impl.OpRmdir != 5 || impl.OpRename != 6 {
		t.Error("kinds of ops")
	}
	if impl.ErrNone != 0 || impl.ErrBad != 1 || impl.ErrNoEnt != 2 || impl.ErrExist != 3 || impl.ErrNotDir != 4 {
		t.Error("codes up to ErrNotDir")
	}
	if impl.ErrIsDir != 5 || impl.ErrNotEmpty != 6 || impl.ErrInval != 7 || impl.ErrFull != 8 {
		t.Error("codes from ErrIsDir on")
	}
}

func TestNewNames(t *testing.T) {
	got := impl.NewNames()
	wantTreeOfNames(t, "NewNames", got, impl.Names{Inodes: []impl.Inode{{Dir: true, Links: 1}}})
	checkRoll(t, got, rollIn(""), "/a", "")
}

// folder reads names, each with the number of its inode behind a '='.
func folder(text string) impl.Inode {
	x := impl.Inode{Dir: true, Links: 1}
	for _, word := range strings.Fields(text) {
		name, file, _ := strings.Cut(word, "=")
		x.Names = append(x.Names, entry(name, numberIn(file)))
	}
	return x
}

func fileOf(links int) impl.Inode {
	return impl.Inode{Links: links}
}

func inodesOf(l ...impl.Inode) impl.Names {
	return impl.Names{Inodes: l}
}

func wantGoodNames(t *testing.T, what string, names impl.Names, want bool) {
	t.Helper()
	if got := impl.GoodNames(names); got != want {
		t.Errorf("%s: GoodNames of %v: got %v", what, names, got)
	}
}

func TestGoodNamesOfRoot(t *testing.T) {
	wantGoodNames(t, "no inodes", impl.Names{}, false)
	wantGoodNames(t, "no inodes, no nil", impl.Names{Inodes: []impl.Inode{}}, false)
	wantGoodNames(t, "/ alone", inodesOf(folder("")), true)
	wantGoodNames(t, "/ alone, an empty list", inodesOf(impl.Inode{Dir: true, Links: 1, Names: []impl.Name{}}), true)
	wantGoodNames(t, "/ is a file", inodesOf(fileOf(1)), false)
	wantGoodNames(t, "/ is a file with Links 0", inodesOf(fileOf(0)), false)
	wantGoodNames(t, "/ is a file with Names", inodesOf(impl.Inode{Links: 1, Names: []impl.Name{entry("a", 1)}}, fileOf(1)), false)
	for _, links := range []int{0, 2, -1, 3, math.MaxInt, math.MinInt} {
		wantGoodNames(t, "/ with other Links", inodesOf(impl.Inode{Dir: true, Links: links}), false)
	}
	wantGoodNames(t, "/ is named", inodesOf(folder("a=1"), folder("up=0")), false)
	wantGoodNames(t, "/ names itself", inodesOf(folder("a=0")), false)
	self := folder("a=0")
	self.Links = 2
	wantGoodNames(t, "/ names itself, with Links 2", inodesOf(self), false)
}

func TestGoodNamesOfDirectories(t *testing.T) {
	wantGoodNames(t, "one", inodesOf(folder("a=1"), folder("")), true)
	wantGoodNames(t, "one in another", inodesOf(folder("a=1"), folder("b=2"), folder("")), true)
	wantGoodNames(t, "the inner one has the less number", inodesOf(folder("a=2"), folder(""), folder("b=1")), true)
	wantGoodNames(t, "named twice", inodesOf(folder("a=1 b=1"), folder("")), false)
	wantGoodNames(t, "named twice, in two", inodesOf(folder("a=1 b=2"), folder("c=2"), folder("")), false)
	twice := impl.Inode{Dir: true, Links: 2}
	wantGoodNames(t, "named twice with Links 2", inodesOf(folder("a=1 b=1"), twice), false)
	wantGoodNames(t, "named once with Links 2", inodesOf(folder("a=1"), twice), false)
	wantGoodNames(t, "named once with Links 0", inodesOf(folder("a=1"), impl.Inode{Dir: true}), false)
	wantGoodNames(t, "named nowhere with Links 1", inodesOf(folder(""), folder("")), false)
	wantGoodNames(t, "named nowhere, with a file in it", inodesOf(folder(""), folder("a=2"), fileOf(1)), false)
	wantGoodNames(t, "a ring of one", inodesOf(folder(""), folder("a=1")), false)
	wantGoodNames(t, "a ring of two", inodesOf(folder(""), folder("a=2"), folder("b=1")), false)
	wantGoodNames(t, "a ring of three beside a tree", inodesOf(folder("x=4"), folder("a=2"), folder("b=3"), folder("c=1"), folder("")), false)
	wantGoodNames(t, "a ring with a file", inodesOf(folder(""), folder("a=2"), folder("b=1 f=3"), fileOf(1)), false)
	wantGoodNames(t, "a ring with a file that / names too", inodesOf(folder("f=3"), folder("a=2"), folder("b=1 f=3"), fileOf(2)), false)
	wantGoodNames(t, "a ring with a directory below it", inodesOf(folder(""), folder("a=2"), folder("b=1 c=3"), folder("")), false)
	wantGoodNames(t, "a ring that / comes to", inodesOf(folder("a=1"), folder("b=2"), folder("c=1")), false)
}

func TestGoodNamesOfFiles(t *testing.T) {
	wantGoodNames(t, "one", inodesOf(folder("a=1"), fileOf(1)), true)
	wantGoodNames(t, "with two names in one directory", inodesOf(folder("a=1 b=1"), fileOf(2)), true)
	wantGoodNames(t, "with two names in two", inodesOf(folder("a=1 d=2"), fileOf(2), folder("a=1")), true)
	for links := -1; links <= 4; links++ {
		wantGoodNames(t, "named once", inodesOf(folder("a=1"), fileOf(links)), links == 1)
		wantGoodNames(t, "named twice", inodesOf(folder("a=1 b=1"), fileOf(links)), links == 2)
		wantGoodNames(t, "named in two directories", inodesOf(folder("a=1 d=2"), fileOf(links), folder("x=1 y=1")), links == 3)
		wantGoodNames(t, "named nowhere", inodesOf(folder(""), fileOf(links)), links == 0)
	}
	wantGoodNames(t, "with Names", inodesOf(folder("a=1 b=2"), impl.Inode{Links: 1, Names: []impl.Name{entry("x", 2)}}, fileOf(2)), false)
	wantGoodNames(t, "with an empty list of Names", inodesOf(folder("a=1"), impl.Inode{Links: 1, Names: []impl.Name{}}), true)
}

func TestGoodNamesOfInodesThatAreNotInUse(t *testing.T) {
	wantGoodNames(t, "one", inodesOf(folder(""), fileOf(0)), true)
	wantGoodNames(t, "many", inodesOf(folder("a=3"), fileOf(0), fileOf(0), fileOf(1), fileOf(0)), true)
	wantGoodNames(t, "an empty list of Names", inodesOf(folder(""), impl.Inode{Names: []impl.Name{}}), true)
	wantGoodNames(t, "Dir true", inodesOf(folder(""), impl.Inode{Dir: true}), false)
	wantGoodNames(t, "it has Names", inodesOf(folder(""), impl.Inode{Names: []impl.Name{entry("a", 2)}}, fileOf(1)), false)
	wantGoodNames(t, "it has Names, that / has too", inodesOf(folder("b=2"), impl.Inode{Names: []impl.Name{entry("a", 2)}}, fileOf(2)), false)
	wantGoodNames(t, "Dir true and Names", inodesOf(folder(""), impl.Inode{Dir: true, Names: []impl.Name{entry("a", 2)}}, fileOf(1)), false)
	wantGoodNames(t, "it is named", inodesOf(folder("a=1"), fileOf(0)), false)
	wantGoodNames(t, "it is named twice", inodesOf(folder("a=1 b=1"), fileOf(0)), false)
	wantGoodNames(t, "a directory that is named", inodesOf(folder("a=1"), impl.Inode{Dir: true}), false)
	wantGoodNames(t, "Links below 0", inodesOf(folder(""), fileOf(-1)), false)
}

func TestGoodNamesOfWhatNamesMean(t *testing.T) {
	for _, file := range []int{0, -1, 2, 3, 59, 60, 1000, math.MaxInt, math.MinInt} {
		wantGoodNames(t, "a name of File", inodesOf(impl.Inode{Dir: true, Links: 1, Names: []impl.Name{entry("a", file)}}, fileOf(1)), false)
		wantGoodNames(t, "one more name of File", inodesOf(impl.Inode{Dir: true, Links: 1, Names: []impl.Name{entry("a", 1), entry("b", file)}}, fileOf(1)), false)
	}
	wantGoodNames(t, "names that fall", inodesOf(folder("b=1 a=2"), fileOf(1), fileOf(1)), false)
	wantGoodNames(t, "the last two fall", inodesOf(folder("a=1 c=2 b=1"), fileOf(2), fileOf(1)), false)
	wantGoodNames(t, "a name twice", inodesOf(folder("a=1 a=2"), fileOf(1), fileOf(1)), false)
	wantGoodNames(t, "a name twice, of one file", inodesOf(folder("a=1 a=1"), fileOf(2)), false)
	wantGoodNames(t, "a name in two directories", inodesOf(folder("a=1 b=2"), fileOf(1), folder("a=3"), fileOf(1)), true)
	wantGoodNames(t, "by bytes", inodesOf(folder("-=1 .=1 .-=1 0=1 9=1 a=1 a-=1 a.=1 a0=1 aa=1 z=1"), fileOf(11)), true)
	for _, name := range notNames() {
		wantGoodNames(t, "a name that is none", inodesOf(impl.Inode{Dir: true, Links: 1, Names: []impl.Name{entry(name, 1)}}, fileOf(1)), false)
	}
	for _, name := range []string{"a", "abcdefghijkl", ".", "..", "-", "0", "a.b-c"} {
		wantGoodNames(t, "a name", inodesOf(impl.Inode{Dir: true, Links: 1, Names: []impl.Name{entry(name, 1)}}, fileOf(1)), true)
	}
}

// manyNames has so many names of one file in the directory /d.
func manyNames(many int) roll {
	b := rollIn("/d/ /f")
	for i := range many {
		b.paths[fmt.Sprintf("/d/n%d", i)] = b.paths["/f"]
	}
	return b
}

// chain has a directory in a directory, and so on: so many names.
func chain(names int) roll {
	b := rollIn("")
	for path := range chainPaths(names) {
		b = b.made(path, true)
	}
	return b
}

// chainPaths are /a, /a/a and so on.
func chainPaths(names int) func(yield func(path string) bool) {
	return func(yield func(path string) bool) {
		for many := 1; many <= names; many++ {
			if !yield(strings.Repeat("/a", many)) {
				return
			}
		}
	}
}

func TestGoodNamesAtTheirLimits(t *testing.T) {
	for many := 18; many <= 22; many++ {
		wantGoodNames(t, fmt.Sprint(many, " names in a directory"), manyNames(many).laid(), many <= 20)
		root := rollIn("/f")
		for i := range many - 1 {
			root.paths[fmt.Sprintf("/n%d", i)] = 1
		}
		wantGoodNames(t, fmt.Sprint(many, " names in /"), root.laid(), many <= 20)
	}
	for many := 58; many <= 62; many++ {
		b := rollIn("")
		b.many = many
		wantGoodNames(t, fmt.Sprint(many, " inodes, not in use"), b.laid(), many <= 60)
		wantGoodNames(t, fmt.Sprint(many, " inodes, in use"), manyFiles(many).laid(), many <= 60)
	}
	for names := 1; names <= 11; names++ {
		b := chain(names)
		wantGoodNames(t, fmt.Sprint("a path of ", names, " names"), b.laid(), names <= 8)
		wantGoodNames(t, fmt.Sprint("a file's path of ", names+1, " names"), b.made(strings.Repeat("/a", names)+"/f", false).laid(), names+1 <= 8)
		beside := b.made("/f", false)
		beside.paths[strings.Repeat("/a", names)+"/g"] = beside.paths["/f"]
		wantGoodNames(t, fmt.Sprint("the second path of a file has ", names+1, " names"), beside.laid(), names+1 <= 8)
	}
	wantGoodNames(t, "59 directories, one in another", chain(59).laid(), false)
}

func wantWalk(t *testing.T, names impl.Names, path string, number int, code int) {
	t.Helper()
	if got, told := impl.WalkPath(names, path); got != number || told != code {
		t.Errorf("WalkPath of %q: got %d %d, want %d %d", path, got, told, number, code)
	}
}

func TestWalkPathByHand(t *testing.T) {
	names := treeOfNames("/a/ /a/b/ /a/b/f /g - /a/h=/g /abcdefghijkl/ /abcdefghijkl/x")
	for path, number := range map[string]int{
		"/": 0, "/a": 1, "/a/b": 2, "/a/b/f": 3, "/g": 4, "/a/h": 4, "/abcdefghijkl": 6, "/abcdefghijkl/x": 7,
	} {
		wantWalk(t, names, path, number, impl.ErrNone)
	}
	for path, code := range map[string]int{
		"/x": impl.ErrNoEnt, "/a/x": impl.ErrNoEnt, "/a/b/x": impl.ErrNoEnt, "/x/y": impl.ErrNoEnt, "/x/y/z": impl.ErrNoEnt, "/aa": impl.ErrNoEnt, "/abcdefghijk": impl.ErrNoEnt,
		"/g/x": impl.ErrNotDir, "/g/x/y": impl.ErrNotDir, "/a/b/f/x": impl.ErrNotDir, "/a/h/g": impl.ErrNotDir, "/a/b/f/x/y/z/u/v": impl.ErrNotDir,
		"": impl.ErrBad, "a": impl.ErrBad, "a/b": impl.ErrBad, "//": impl.ErrBad, "//a": impl.ErrBad, "/a//b": impl.ErrBad, "/a/": impl.ErrBad, "/a/b/": impl.ErrBad, "/g/": impl.ErrBad, "///": impl.ErrBad,
		" /a": impl.ErrBad, "/a ": impl.ErrBad, "/A": impl.ErrBad, "/a/B": impl.ErrBad, "/abcdefghijklm": impl.ErrBad, "/a\x00": impl.ErrBad, "\\a": impl.ErrBad,
	} {
		wantWalk(t, names, path, 0, code)
	}
}

// What is no path is told ahead of all; then the first name from the left that can't be walked counts.
func TestWalkPathTellsTheFirstFault(t *testing.T) {
	names := treeOfNames("/a/ /g")
	for path, code := range map[string]int{
		"/x/y/Z": impl.ErrBad, "/g/x/": impl.ErrBad, "/x//y": impl.ErrBad, "/g/x/abcdefghijklm": impl.ErrBad, "/x" + strings.Repeat("/y", 8): impl.ErrBad, "/g" + strings.Repeat("/y", 8): impl.ErrBad,
		"/x/g/y": impl.ErrNoEnt, "/a/x/g": impl.ErrNoEnt, "/g/a/x": impl.ErrNotDir, "/g/x" + strings.Repeat("/y", 6): impl.ErrNotDir, "/x" + strings.Repeat("/y", 7): impl.ErrNoEnt,
	} {
		wantWalk(t, names, path, 0, code)
	}
	for _, path := range []string{"/", "/a", "/x", "/g/x", "", "//"} {
		wantWalk(t, inodesOf(folder("a=1"), fileOf(2)), path, 0, impl.ErrBad)
		wantWalk(t, impl.Names{}, path, 0, impl.ErrBad)
	}
}

func TestWalkPathOfEightNamesAndNine(t *testing.T) {
	b := chain(8)
	number := 0
	for path := range chainPaths(8) {
		number++
		wantWalk(t, b.laid(), path, number, impl.ErrNone)
	}
	wantWalk(t, b.laid(), strings.Repeat("/a", 9), 0, impl.ErrBad)
	wantWalk(t, b.laid(), strings.Repeat("/a", 7)+"/b", 0, impl.ErrNoEnt)
	wantWalk(t, b.laid(), strings.Repeat("/a", 8)+"/b", 0, impl.ErrBad)
	wantWalk(t, chain(9).laid(), "/a", 0, impl.ErrBad)
	wantWalk(t, rollIn("").laid(), strings.Repeat("/a", 8), 0, impl.ErrNoEnt)
	wantWalk(t, rollIn("").laid(), strings.Repeat("/a", 100000), 0, impl.ErrBad)
	long := "/" + strings.Repeat("z", 12)
	wantWalk(t, rollIn("").laid(), strings.Repeat(long, 8), 0, impl.ErrNoEnt)
}

// wantOp: the op tells that code, and leaves what is read from after.
func wantOp(t *testing.T, what string, before roll, op impl.NameOp, code int, after roll) {
	t.Helper()
	got, told := impl.DoName(before.laid(), op)
	if told != code || !sameTreeOfNames(got, after.laid()) {
		t.Errorf("%s: %v in %v: got %v %d, want %v %d", what, op, before.paths, got, told, after.laid(), code)
	}
	checkName(t, before, op)
}

func wantDone(t *testing.T, before string, op string, after string) {
	t.Helper()
	wantOp(t, op, rollIn(before), opIn(op), impl.ErrNone, rollIn(after))
}

func wantCodes(t *testing.T, before roll, codes map[string]int) {
	t.Helper()
	for op, code := range codes {
		wantOp(t, op, before, opIn(op), code, before)
	}
}

func TestMakeByHand(t *testing.T) {
	wantDone(t, "", "make /a", "/a")
	wantDone(t, "", "mkdir /a", "/a/")
	wantDone(t, "/b", "make /a", "/b /a")
	wantDone(t, "/b/", "mkdir /a", "/b/ /a/")
	wantDone(t, "/a/", "make /a/a", "/a/ /a/a")
	wantDone(t, "/a/ /a/b/", "mkdir /a/b/c", "/a/ /a/b/ /a/b/c/")
	wantDone(t, "/b/ /b/f", "make /f", "/b/ /b/f /f")
	wantDone(t, "", "make /abcdefghijkl", "/abcdefghijkl")
	wantDone(t, "", "mkdir /..", "/../")
	wantDone(t, "-", "make /a", "/a")
	wantDone(t, "- -", "mkdir /a", "/a/ -")
	wantDone(t, "/b - /c -", "make /a", "/b /a /c -")
	wantDone(t, "/b/ - /c -", "mkdir /b/a", "/b/ /b/a/ /c -")
	wantCodes(t, rollIn("/a/ /a/b /c"), map[string]int{
		"make /a": impl.ErrExist, "make /a/b": impl.ErrExist, "make /c": impl.ErrExist, "mkdir /a": impl.ErrExist, "mkdir /a/b": impl.ErrExist, "mkdir /c": impl.ErrExist,
		"make /x/y": impl.ErrNoEnt, "mkdir /x/y": impl.ErrNoEnt, "make /a/x/y": impl.ErrNoEnt, "make /x/y/z": impl.ErrNoEnt,
		"make /c/x": impl.ErrNotDir, "mkdir /c/x": impl.ErrNotDir, "make /a/b/x": impl.ErrNotDir, "mkdir /a/b/x": impl.ErrNotDir, "make /a/b/x/y": impl.ErrNotDir,
		"make /": impl.ErrInval, "mkdir /": impl.ErrInval,
		"make ": impl.ErrBad, "mkdir x": impl.ErrBad, "make //x": impl.ErrBad, "mkdir /x/": impl.ErrBad, "make /x/Y": impl.ErrBad, "make /c/X": impl.ErrBad, "mkdir /abcdefghijklm": impl.ErrBad,
	})
}

func TestMakeWithAsManyInodesAsThereMayBe(t *testing.T) {
	for _, op := range []string{"make /x", "mkdir /x", "make /a/x", "mkdir /c/x"} {
		isDir := strings.HasPrefix(op, "mkdir")
		last := manyFiles(59)
		wantOp(t, "the last one", last, opIn(op), impl.ErrNone, last.made(opIn(op).Path, isDir))
		wantCodes(t, manyFiles(60), map[string]int{op: impl.ErrFull})
		free := manyFiles(60).without("/b/n7")
		wantOp(t, "one has Links 0", free, opIn(op), impl.ErrNone, free.made(opIn(op).Path, isDir))
		number, code := impl.WalkPath(free.made(opIn(op).Path, isDir).laid(), opIn(op).Path)
		if number != manyFiles(60).paths["/b/n7"] || code != impl.ErrNone {
			t.Errorf("%s: in the place %d", op, number)
		}
	}
	wantCodes(t, manyFiles(60), map[string]int{
		"make /a": impl.ErrExist, "mkdir /a/n0": impl.ErrExist, "make /x/y": impl.ErrNoEnt, "make /a/n0/x": impl.ErrNotDir, "make /": impl.ErrInval, "make /X": impl.ErrBad,
	})
	wantOp(t, "a link takes no inode", manyFiles(60), opIn("link /a/n0 /x"), impl.ErrNone, manyFiles(60).linked("/a/n0", "/x"))
	wantOp(t, "a new name takes no inode", manyFiles(60), opIn("rename /a/n0 /x"), impl.ErrNone, manyFiles(60).renamed("/a/n0", "/x"))
}

func (b roll) linked(path string, to string) roll {
	next := b.copied()
	next.paths[to] = b.paths[path]
	return next
}

func TestMakeInAFullDirectory(t *testing.T) {
	for _, op := range []string{"make /d/x", "mkdir /d/x"} {
		isDir := strings.HasPrefix(op, "mkdir")
		wantOp(t, "the name 20", manyNames(19), opIn(op), impl.ErrNone, manyNames(19).made("/d/x", isDir))
		wantCodes(t, manyNames(20), map[string]int{op: impl.ErrFull})
	}
	wantCodes(t, manyNames(20), map[string]int{"make /d/n0": impl.ErrExist, "mkdir /d/n19": impl.ErrExist, "make /d/n0/x": impl.ErrNotDir})
	wantOp(t, "in another directory", manyNames(20), opIn("make /x"), impl.ErrNone, manyNames(20).made("/x", false))
}

func TestMakeAtTheEighthNameAndTheNinth(t *testing.T) {
	b := chain(7)
	path := strings.Repeat("/a", 7) + "/x"
	for _, word := range []string{"make ", "mkdir "} {
		next := b.made(path, word == "mkdir ")
		wantOp(t, "the eighth", b, opIn(word+path), impl.ErrNone, next)
		wantCodes(t, next, map[string]int{word + path + "/y": impl.ErrBad, word + path: impl.ErrExist})
		wantCodes(t, chain(8), map[string]int{word + strings.Repeat("/a", 9): impl.ErrBad})
	}
}

func TestUnlinkByHand(t *testing.T) {
	wantDone(t, "/a", "unlink /a", "-")
	wantDone(t, "/a /b", "unlink /a", "- /b")
	wantDone(t, "/a/ /a/b", "unlink /a/b", "/a/ -")
	wantDone(t, "/a /b=/a", "unlink /a", "/b")
	wantDone(t, "/a /b=/a", "unlink /b", "/a")
	wantDone(t, "/d/ /d/a /b=/d/a /d/c=/d/a", "unlink /d/a", "/d/ /b /d/c=/b")
	wantDone(t, "/a - /c", "unlink /c", "/a - -")
	wantCodes(t, rollIn("/a/ /a/b /e/"), map[string]int{
		"unlink /x": impl.ErrNoEnt, "unlink /a/x": impl.ErrNoEnt, "unlink /x/y": impl.ErrNoEnt, "unlink /a": impl.ErrIsDir, "unlink /e": impl.ErrIsDir,
		"unlink /a/b/x": impl.ErrNotDir, "unlink /": impl.ErrInval, "unlink ": impl.ErrBad, "unlink /a/b/": impl.ErrBad, "unlink a": impl.ErrBad,
	})
}

func TestRmdirByHand(t *testing.T) {
	wantDone(t, "/a/", "rmdir /a", "-")
	wantDone(t, "/a/ /b/", "rmdir /a", "- /b/")
	wantDone(t, "/a/ /a/b/", "rmdir /a/b", "/a/ -")
	wantDone(t, "/a/ /a/b/ /a/c", "rmdir /a/b", "/a/ - /a/c")
	wantCodes(t, rollIn("/a/ /a/b /c /d/ /d/e/"), map[string]int{
		"rmdir /x": impl.ErrNoEnt, "rmdir /a/x": impl.ErrNoEnt, "rmdir /x/y": impl.ErrNoEnt, "rmdir /c": impl.ErrNotDir, "rmdir /a/b": impl.ErrNotDir, "rmdir /c/x": impl.ErrNotDir,
		"rmdir /a": impl.ErrNotEmpty, "rmdir /d": impl.ErrNotEmpty, "rmdir /": impl.ErrInval, "rmdir ": impl.ErrBad, "rmdir /d/e/": impl.ErrBad,
	})
}

func TestLinkByHand(t *testing.T) {
	wantDone(t, "/a", "link /a /b", "/a /b=/a")
	wantDone(t, "/a /b=/a", "link /b /c", "/a /b=/a /c=/a")
	wantDone(t, "/d/ /a", "link /a /d/a", "/d/ /a /d/a=/a")
	wantDone(t, "/d/ /d/a", "link /d/a /d/b", "/d/ /d/a /d/b=/d/a")
	wantDone(t, "/d/ /d/a", "link /d/a /0", "/d/ /d/a /0=/d/a")
	wantCodes(t, rollIn("/a/ /a/b /c /d/ /e=/c"), map[string]int{
		"link /x /y": impl.ErrNoEnt, "link /a/x /y": impl.ErrNoEnt, "link /a /y": impl.ErrIsDir, "link /d /y": impl.ErrIsDir,
		"link /c /a/b": impl.ErrExist, "link /c /a": impl.ErrExist, "link /c /e": impl.ErrExist, "link /c /c": impl.ErrExist,
		"link /c /x/y": impl.ErrNoEnt, "link /c /e/y": impl.ErrNotDir, "link /c /c/y": impl.ErrNotDir, "link /x/y /z": impl.ErrNoEnt, "link /c/x /z": impl.ErrNotDir,
		"link / /y": impl.ErrInval, "link /c /": impl.ErrInval, "link / /": impl.ErrInval,
		"link /c": impl.ErrBad, "link /c ": impl.ErrBad, "link /c y": impl.ErrBad, "link /c /y/": impl.ErrBad, "link c /y": impl.ErrBad, "link  /y": impl.ErrBad,
	})
	eight := chain(7).made("/f", false)
	path := strings.Repeat("/a", 7) + "/x"
	wantOp(t, "to the eighth name", eight, impl.NameOp{Kind: impl.OpLink, Path: "/f", To: path}, impl.ErrNone, eight.linked("/f", path))
	wantCodes(t, chain(8).made("/f", false), map[string]int{"link /f " + strings.Repeat("/a", 8) + "/x": impl.ErrBad})
}

func TestLinkIntoAFullDirectory(t *testing.T) {
	wantOp(t, "the name 20", manyNames(19), opIn("link /f /d/x"), impl.ErrNone, manyNames(19).linked("/f", "/d/x"))
	wantCodes(t, manyNames(20), map[string]int{
		"link /f /d/x": impl.ErrFull, "link /d/n0 /d/x": impl.ErrFull, "link /f /d/n0": impl.ErrExist, "link /x /d/y": impl.ErrNoEnt, "link /d /d/x": impl.ErrIsDir,
	})
	wantOp(t, "out of it", manyNames(20), opIn("link /d/n0 /x"), impl.ErrNone, manyNames(20).linked("/f", "/x"))
}

func TestRenameByHand(t *testing.T) {
	for _, c := range []struct{ before, op, after string }{
		{"/a", "rename /a /b", "/b"}, {"/a/", "rename /a /b", "/b/"}, {"/b", "rename /b /a", "/a"},
		{"/d/ /a", "rename /a /d/a", "/d/ /d/a"}, {"/d/ /d/a", "rename /d/a /a", "/d/ /a"}, {"/d/ /e/", "rename /e /d/x", "/d/ /d/x/"},
		{"/d/ /d/e/ /d/e/f /x/", "rename /d /x/y", "/x/y/ /x/y/e/ /x/y/e/f /x/"}, {"/d/ /d/e/ /d/e/f", "rename /d/e /e", "/d/ /e/ /e/f"},
		{"/a /b=/a", "rename /a /c", "/c /b=/c"}, {"/a /b=/a", "rename /b /c", "/a /c=/a"}, {"/d/ /a /d/b=/a", "rename /d/b /b", "/d/ /a /b=/a"},
		{"/a/ /ab/", "rename /a /ab/c", "/ab/c/ /ab/"}, {"/a/ /ab/", "rename /a /aa", "/aa/ /ab/"}, {"/d/ /d/a", "rename /d/a /d/b", "/d/ /d/b"},
		{"- /a", "rename /a /b", "- /b"}, {"/a/ /a/b/", "rename /a/b /b", "/a/ /b/"},
	} {
		wantDone(t, c.before, c.op, c.after)
	}
	wantCodes(t, rollIn("/a/ /a/b /c /d/ /d/e/"), map[string]int{
		"rename /x /y": impl.ErrNoEnt, "rename /x /x": impl.ErrNoEnt, "rename /a/x /y": impl.ErrNoEnt, "rename /x /c": impl.ErrNoEnt, "rename /x /x/y": impl.ErrNoEnt,
		"rename /x/y /z": impl.ErrNoEnt, "rename /c /x/y": impl.ErrNoEnt, "rename /c/x /z": impl.ErrNotDir, "rename /d /c/x": impl.ErrNotDir, "rename /c /c/x": impl.ErrNotDir,
		"rename / /y": impl.ErrInval, "rename /c /": impl.ErrInval, "rename /a /": impl.ErrInval, "rename / /": impl.ErrInval,
		"rename /c": impl.ErrBad, "rename /c y": impl.ErrBad, "rename /c /y/": impl.ErrBad, "rename c /y": impl.ErrBad, "rename  /y": impl.ErrBad,
	})
}

func TestRenameToItself(t *testing.T) {
	for _, text := range []string{"/a", "/a/", "/a/ /a/b", "/a /b=/a", "/d/ /a /d/b=/a", "- /a"} {
		wantDone(t, text, "rename /a /a", text)
	}
	wantDone(t, "/d/ /d/e/ /d/e/f", "rename /d/e /d/e", "/d/ /d/e/ /d/e/f")
	for _, op := range []string{"rename /a /b", "rename /b /a", "rename /a /d/c", "rename /d/c /b", "rename /d/c /d/c"} {
		text := "/d/ /a /b=/a /d/c=/a"
		wantDone(t, text, op, text)
	}
	full := manyNames(20)
	for _, op := range []string{"rename /f /d/n0", "rename /d/n0 /f", "rename /d/n1 /d/n2", "rename /d/n1 /d/n1", "rename /d /d"} {
		wantOp(t, "in a full directory", full, opIn(op), impl.ErrNone, full)
	}
}

func TestRenameOfADirectoryIntoItself(t *testing.T) {
	wantCodes(t, rollIn("/a/ /a/b/ /a/b/c/ /a/b/c/d/ /a/b/f /a/g"), map[string]int{
		"rename /a /a/x": impl.ErrInval, "rename /a /a/b": impl.ErrInval, "rename /a /a/b/x": impl.ErrInval, "rename /a /a/b/c": impl.ErrInval, "rename /a /a/b/c/d/x": impl.ErrInval,
		"rename /a/b /a/b/x": impl.ErrInval, "rename /a/b /a/b/c": impl.ErrInval, "rename /a/b /a/b/c/d": impl.ErrInval, "rename /a /a/g": impl.ErrInval, "rename /a /a/b/f": impl.ErrInval,
		"rename /a /a/x/y": impl.ErrNoEnt, "rename /a /a/g/y": impl.ErrNotDir, "rename /a/b /a": impl.ErrNotEmpty, "rename /a/b/c/d /a": impl.ErrNotEmpty, "rename /a/g /a": impl.ErrIsDir, "rename /a/b/f /a/b": impl.ErrIsDir,
	})
	wantDone(t, "/a/ /aa/", "rename /a /aa/a", "/aa/a/ /aa/")
	wantDone(t, "/a/ /a-/", "rename /a /a-/a", "/a-/a/ /a-/")
}

func TestRenameToWhatIsThere(t *testing.T) {
	for _, c := range []struct{ before, op, after string }{
		{"/a /b", "rename /a /b", "/b -"}, {"/a /b", "rename /b /a", "- /a"}, {"/a /b /c=/b", "rename /a /b", "/b /c"}, {"/a /b /c=/a", "rename /a /b", "/b - /c=/b"},
		{"/a /b /c=/b", "rename /a /c", "/c /b"}, {"/d/ /d/a /b", "rename /d/a /b", "/d/ /b -"}, {"/d/ /d/a /b", "rename /b /d/a", "/d/ - /d/a"},
		{"/a/ /b/", "rename /a /b", "/b/ -"}, {"/a/ /a/f /b/", "rename /a /b", "/b/ /b/f -"}, {"/a/ /a/c/ /a/c/f /b/ /b/e/", "rename /a/c /b/e", "/a/ /b/e/ /b/e/f /b/ -"},
		{"/a/ /a/b/ /a/b/c/ /d/", "rename /a/b/c /d", "/a/ /a/b/ /d/ -"}, {"/a/ /a/b/ /c/ /c/f", "rename /c /a/b", "/a/ - /a/b/ /a/b/f"},
	} {
		wantDone(t, c.before, c.op, c.after)
	}
	wantCodes(t, rollIn("/a/ /a/f /b/ /c /d/ /d/e/ /g=/c"), map[string]int{
		"rename /a /c": impl.ErrNotDir, "rename /b /c": impl.ErrNotDir, "rename /b /a/f": impl.ErrNotDir, "rename /b /g": impl.ErrNotDir,
		"rename /a /d": impl.ErrNotEmpty, "rename /b /a": impl.ErrNotEmpty, "rename /d/e /d": impl.ErrNotEmpty, "rename /b /d": impl.ErrNotEmpty,
		"rename /c /a": impl.ErrIsDir, "rename /c /b": impl.ErrIsDir, "rename /a/f /d": impl.ErrIsDir, "rename /c /d/e": impl.ErrIsDir, "rename /a/f /a": impl.ErrIsDir,
	})
}

func TestRenameIntoAFullDirectory(t *testing.T) {
	wantOp(t, "the name 20", manyNames(19), opIn("rename /f /d/x"), impl.ErrNone, manyNames(19).renamed("/f", "/d/x"))
	full := manyNames(20).made("/e", true).made("/g", false)
	wantCodes(t, full, map[string]int{"rename /g /d/x": impl.ErrFull, "rename /e /d/x": impl.ErrFull, "rename /f /d/x": impl.ErrFull, "rename /x /d/y": impl.ErrNoEnt, "rename /e /d/n0": impl.ErrNotDir, "rename /d /d/x": impl.ErrInval})
	for _, op := range []string{"rename /d/n0 /d/x", "rename /d/n19 /d/0", "rename /d/n3 /d/n3x", "rename /g /d/n0", "rename /d/n0 /x", "rename /d /x", "rename /d /e"} {
		wantOp(t, "a full directory", full, opIn(op), impl.ErrNone, full.renamed(opIn(op).Path, opIn(op).To))
	}
	root := rollIn("/f /d/ /d/g")
	for i := range 18 {
		root = root.linked("/f", fmt.Sprintf("/n%d", i))
	}
	wantCodes(t, root, map[string]int{"rename /d/g /g": impl.ErrFull, "make /x": impl.ErrFull})
	for _, op := range []string{"rename /d /e", "rename /n0 /x", "rename /d/g /n0", "rename /f /d/f"} {
		wantOp(t, "/ is full", root, opIn(op), impl.ErrNone, root.renamed(opIn(op).Path, opIn(op).To))
	}
}

// below has a chain, and beside it a directory /x with so many names one below the other in it, the last one a file's.
func below(names int, many int) roll {
	b := chain(names).made("/x", true)
	for i := range many {
		b = b.made("/x"+strings.Repeat("/y", i+1), i+1 < many)
	}
	return b
}

func TestRenameOfWhatHasDeepPaths(t *testing.T) {
	for many := range 8 {
		for names := range 8 {
			b := below(names, many)
			to := strings.Repeat("/a", names) + "/z"
			op := impl.NameOp{Kind: impl.OpRename, Path: "/x", To: to}
			if names+1+many <= 8 {
				wantOp(t, "deep", b, op, impl.ErrNone, b.renamed("/x", to))
			} else {
				wantOp(t, "too deep", b, op, impl.ErrFull, b)
			}
			there := b.made(to, true)
			if names+1+many <= 8 {
				wantOp(t, "deep, in place of a directory", there, op, impl.ErrNone, there.renamed("/x", to))
			} else {
				wantOp(t, "too deep, in place of a directory", there, op, impl.ErrFull, there)
			}
		}
	}
	b := below(6, 2)
	wantOp(t, "deeper, below itself", b, impl.NameOp{Kind: impl.OpRename, Path: "/x", To: "/x/y2"}, impl.ErrInval, b)
	six := strings.Repeat("/a", 6)
	wantCodes(t, b.made(six+"/f", false).made(six+"/d", true).made(six+"/d/g", false), map[string]int{
		"rename /x " + six + "/f": impl.ErrNotDir, "rename /x " + six + "/d": impl.ErrNotEmpty, "rename /x " + six + "/e": impl.ErrFull, "rename /x " + six + "/f/x": impl.ErrNotDir,
	})
	wantCodes(t, below(8, 0), map[string]int{"rename /x " + strings.Repeat("/a", 8) + "/x": impl.ErrBad})
	side := below(6, 1).made("/x/e", true).made("/x/e/f", false)
	wantOp(t, "one of many is too deep", side, impl.NameOp{Kind: impl.OpRename, Path: "/x", To: six + "/z"}, impl.ErrFull, side)
}

func TestKindsThatAreNone(t *testing.T) {
	b := rollIn("/a/ /a/f")
	for _, kind := range []int{0, 7, -1, 8, 100, math.MaxInt, math.MinInt} {
		for _, path := range []string{"/", "/x", "/a", "/a/f", "/x/y", "/a/f/x", "", "x"} {
			for _, to := range []string{"", "/", "/y", "/a/f/x"} {
				wantOp(t, "a Kind that is none", b, impl.NameOp{Kind: kind, Path: path, To: to}, impl.ErrBad, b)
			}
		}
	}
}

// A To that is not asked for is not looked at.
func TestOpsWithoutToLookAtPathAlone(t *testing.T) {
	for _, to := range []string{"", "/", "x", "//", "/A", "/x/y", "/f/x", "/f", strings.Repeat("/a", 9), "\xff"} {
		for _, c := range []struct{ before, op, after string }{
			{"/f", "make /a", "/f /a"}, {"/f", "mkdir /a", "/f /a/"}, {"/f", "unlink /f", "-"}, {"/f/", "rmdir /f", "-"},
		} {
			op := opIn(c.op)
			op.To = to
			wantOp(t, "To "+to, rollIn(c.before), op, impl.ErrNone, rollIn(c.after))
		}
	}
}

// Where two codes hold the first one in the order of the chapter is told.
func TestTheOrderOfCodes(t *testing.T) {
	wantCodes(t, rollIn("/d/ /d/e/ /d/e/f /f /g"), map[string]int{
		"make /x/Y": impl.ErrBad, "make /f/Y": impl.ErrBad, "link / x": impl.ErrBad, "rename /f/x x": impl.ErrBad, "rename /x/y ": impl.ErrBad, "rename X /": impl.ErrBad, "link /x/y //": impl.ErrBad,
		"link / /x/y": impl.ErrInval, "rename / /f/x": impl.ErrInval, "link /x/y /": impl.ErrNoEnt, "rename /f/x /": impl.ErrNotDir, "link /x/y /f/x": impl.ErrNoEnt, "rename /f/x /x/y": impl.ErrNotDir,
		"link /x /": impl.ErrInval, "rename /x /": impl.ErrInval, "link /x /f/y": impl.ErrNotDir, "rename /x /f/y": impl.ErrNotDir, "link /d /": impl.ErrInval, "link /d /f/x": impl.ErrNotDir, "link /d /x/y": impl.ErrNoEnt,
		"link /x /f": impl.ErrNoEnt, "link /d /f": impl.ErrIsDir, "link /d /d": impl.ErrIsDir, "rename /x /d": impl.ErrNoEnt, "rename /d /d/e": impl.ErrInval, "rename /d /d/e/f": impl.ErrInval,
		"rename /d/e /f": impl.ErrNotDir, "rename /f /d": impl.ErrIsDir, "rename /d/e/f /d/e": impl.ErrIsDir, "rename /d/e /d": impl.ErrNotEmpty, "rmdir /f": impl.ErrNotDir,
	})
}

func wantNamesPlayed(t *testing.T, what string, l []impl.NameOp, want impl.Names, codes []int) {
	t.Helper()
	got, told, ok := impl.PlayNames(l)
	if !ok || !sameTreeOfNames(got, want) || !slices.Equal(told, codes) {
		t.Fatalf("%s: got %v %v %v, want %v %v", what, got, told, ok, want, codes)
	}
}

func wantNoNamesPlayed(t *testing.T, what string, l []impl.NameOp) {
	t.Helper()
	if got, told, ok := impl.PlayNames(l); ok || len(got.Inodes) != 0 || len(told) != 0 {
		t.Fatalf("%s: got %v %v %v, want the zero answer", what, got, told, ok)
	}
}

func TestPlayNamesByHand(t *testing.T) {
	wantNamesPlayed(t, "no ops", nil, impl.NewNames(), nil)
	wantNamesPlayed(t, "no ops, no nil", []impl.NameOp{}, impl.NewNames(), nil)
	wantNamesPlayed(t, "one", opsIn("mkdir /a"), treeOfNames("/a/"), []int{0})
	wantNamesPlayed(t, "one that is refused", opsIn("unlink /a"), impl.NewNames(), []int{impl.ErrNoEnt})
	wantNamesPlayed(t, "refused in the midst",
		opsIn("mkdir /a", "make /a", "make /a/f", "rmdir /a", "what /a", "link /a/f /g", "make x", "make /g/x", "rename /a /a/b", "unlink /a/f", "unlink /a", "rename /a /d", "unlink /"),
		treeOfNames("/d/ /g"),
		[]int{0, impl.ErrExist, 0, impl.ErrNotEmpty, impl.ErrBad, 0, impl.ErrBad, impl.ErrNotDir, impl.ErrInval, 0, impl.ErrIsDir, 0, impl.ErrInval})
	wantNamesPlayed(t, "numbers are used again", opsIn("make /a", "make /b", "unlink /a", "mkdir /c", "unlink /b", "rmdir /c"), treeOfNames("- -"), make([]int, 6))
}

func TestPlayNamesOfAsManyOpsAsThereMayBe(t *testing.T) {
	for _, c := range []struct {
		op   string
		code int
	}{{"unlink /a", impl.ErrNoEnt}, {"rename / /", impl.ErrInval}, {"what ", impl.ErrBad}, {"rmdir /a/b", impl.ErrNoEnt}} {
		l := slices.Repeat(opsIn(c.op), 101)
		wantNamesPlayed(t, "100 ops", l[:100], impl.NewNames(), slices.Repeat([]int{c.code}, 100))
		wantNoNamesPlayed(t, "101 ops", l)
	}
	l := slices.Repeat(opsIn("make /a", "unlink /a"), 51)
	wantNamesPlayed(t, "100 ops that are done", l[:100], treeOfNames("-"), make([]int, 100))
	wantNoNamesPlayed(t, "101 ops", l[:101])
	wantNoNamesPlayed(t, "very many", make([]impl.NameOp, 100000))
}

func TestPlayNamesFillsAllInodes(t *testing.T) {
	var l []impl.NameOp
	var codes []int
	b := rollIn("")
	for _, dir := range []string{"/a", "/b", "/c"} {
		l, codes = append(l, impl.NameOp{Kind: impl.OpMkdir, Path: dir}), append(codes, impl.ErrNone)
		b = b.made(dir, true)
	}
	for i := range 60 {
		op := impl.NameOp{Kind: impl.OpMake, Path: fmt.Sprintf("/%c/n%d", "abc"[i%3], i/3)}
		next, code := b.play(op)
		if want := i >= 56; (code == impl.ErrFull) != want {
			t.Fatalf("file %d: the code %d", i, code)
		}
		b, l, codes = next, append(l, op), append(codes, code)
	}
	wantNamesPlayed(t, "as many files as there may be", l, b.laid(), codes)
	checkRoll(t, b.laid(), b)
}

func TestPlayNamesIsItsOps(t *testing.T) {
	s := steps(1333)
	for range 100 {
		b := rollIn("")
		var l []impl.NameOp
		var codes []int
		for range s.below(101) {
			op := someOp(&s, b, 4, 3)
			if s.below(20) == 0 {
				op.Kind = s.below(9)
			}
			next, code := b.play(op)
			b, l, codes = next, append(l, op), append(codes, code)
		}
		wantNamesPlayed(t, "some ops", l, b.laid(), codes)
	}
}

func TestListDirByHand(t *testing.T) {
	names := treeOfNames("/d/ /d/b/ /d/a /f /e/ /d/c=/f")
	for path, text := range map[string]string{"/": "d=1 e=5 f=4", "/d": "a=3 b=2 c=4", "/d/b": "", "/e": ""} {
		if got, code := impl.ListDir(names, path); code != impl.ErrNone || !slices.Equal(got, folder(text).Names) {
			t.Errorf("ListDir of %s: got %v %d", path, got, code)
		}
	}
	for path, code := range map[string]int{
		"/f": impl.ErrNotDir, "/d/a": impl.ErrNotDir, "/d/c": impl.ErrNotDir, "/f/x": impl.ErrNotDir, "/x": impl.ErrNoEnt, "/d/x": impl.ErrNoEnt, "/x/y": impl.ErrNoEnt,
		"": impl.ErrBad, "d": impl.ErrBad, "/d/": impl.ErrBad, "//": impl.ErrBad, strings.Repeat("/d", 9): impl.ErrBad,
	} {
		if got, told := impl.ListDir(names, path); told != code || len(got) != 0 {
			t.Errorf("ListDir of %s: got %v %d, want %d", path, got, told, code)
		}
	}
	if got, code := impl.ListDir(manyNames(20).laid(), "/d"); code != impl.ErrNone || len(got) != 20 {
		t.Errorf("ListDir of 20 names: got %v %d", got, code)
	}
}

func TestPathsOfByHand(t *testing.T) {
	wantPaths(t, impl.NewNames(), []string{"/"})
	wantPaths(t, treeOfNames("- -"), []string{"/"})
	wantPaths(t, treeOfNames("/a/ /b"), []string{"/", "/a", "/b"})
	wantPaths(t, treeOfNames("/d/ /d/e/ /d/e/f /g=/d/e/f /a/"), []string{"/", "/a", "/d", "/d/e", "/d/e/f", "/g"})
	wantPaths(t, treeOfNames("/a /b=/a"), []string{"/", "/a", "/b"})
	wantPaths(t, treeOfNames("/a/ /a/b /a- /a.b /a0 /a./ /a./-"), []string{"/", "/a", "/a-", "/a.", "/a./-", "/a.b", "/a/b", "/a0"})
	wantPaths(t, treeOfNames("/-/ /-/z /. /--"), []string{"/", "/-", "/--", "/-/z", "/."})
	if got, ok := impl.PathsOf(manyFiles(60).laid()); !ok || len(got) != 60 || !slices.IsSorted(got) {
		t.Errorf("PathsOf of 60 inodes: got %v %v", got, ok)
	}
	for _, names := range []impl.Names{{}, inodesOf(fileOf(1)), inodesOf(folder("a=1 b=1"), folder("")), chain(9).laid(), manyNames(21).laid()} {
		if got, ok := impl.PathsOf(names); ok || len(got) != 0 {
			t.Errorf("PathsOf of %v: got %v %v, want the zero answer", names, got, ok)
		}
	}
}

// As many paths as there can be: each directory is full, of directories and then of names of one file.
func TestPathsOfAsManyNamesAsThereMayBe(t *testing.T) {
	b := rollIn("/f")
	dirs := []string{""}
	for at := 0; b.many < 60; at++ {
		for _, name := range firstNames(19) {
			if path := dirs[at] + "/x" + name; b.many < 60 {
				b = b.made(path, true)
				dirs = append(dirs, path)
			}
		}
	}
	for _, dir := range dirs {
		for _, name := range firstNames(20) {
			if !b.isFull(dir + "/z") {
				b = b.linked("/f", dir+"/z"+name)
			}
		}
	}
	if len(b.paths) != 1+59*20 {
		t.Fatalf("%d paths", len(b.paths))
	}
	wantGoodNames(t, "all are full", b.laid(), true)
	wantPaths(t, b.laid(), b.all())
	wantLinks(t, b.laid(), "/f", 59*20-58)
}

func TestLinksOfByHand(t *testing.T) {
	names := treeOfNames("/d/ /d/e/ /f /g /d/g=/g /d/e/g=/g")
	for path, links := range map[string]int{"/": 1, "/d": 1, "/d/e": 1, "/f": 1, "/g": 3, "/d/g": 3, "/d/e/g": 3} {
		wantLinks(t, names, path, links)
	}
	for path, code := range map[string]int{
		"/x": impl.ErrNoEnt, "/d/x": impl.ErrNoEnt, "/x/y": impl.ErrNoEnt, "/f/x": impl.ErrNotDir, "/d/g/x": impl.ErrNotDir, "": impl.ErrBad, "g": impl.ErrBad, "/g/": impl.ErrBad, "//": impl.ErrBad,
	} {
		if got, told := impl.LinksOf(names, path); got != 0 || told != code {
			t.Errorf("LinksOf of %s: got %d %d, want %d", path, got, told, code)
		}
	}
}
