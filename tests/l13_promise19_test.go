package tests

import (
	"fmt"
	"math"
	"slices"
	"strings"
	"testing"

	"loop.example/g00261/impl"
)

// goodByWords goes by the words of the chapter one by one.
func goodByWords(names impl.Names) bool {
	if len(names.Inodes) == 0 || len(names.Inodes) > 60 || !names.Inodes[0].Dir {
		return false
	}
	named := map[int]int{}
	for _, x := range names.Inodes {
		if !listedByWords(x, len(names.Inodes)) {
			return false
		}
		for _, y := range x.Names {
			named[y.File]++
		}
	}
	levels := levelsByWords(names)
	if len(levels) > 9 {
		return false
	}
	come := slices.Concat(levels...)
	for number, x := range names.Inodes {
		switch {
		case x.Links > 0 && !slices.Contains(come, number):
			return false
		case x.Links <= 0 && (number == 0 || x.Dir || x.Links != 0 || len(x.Names) > 0 || named[number] > 0):
			return false
		case x.Dir && (x.Links != 1 || number > 0 && named[number] != 1):
			return false
		case !x.Dir && x.Links != named[number]:
			return false
		}
	}
	return true
}

func listedByWords(x impl.Inode, inodes int) bool {
	if len(x.Names) > 20 || len(x.Names) > 0 && !x.Dir {
		return false
	}
	for i, y := range x.Names {
		if !isNameByTrial(y.Name) || y.File <= 0 || y.File >= inodes || i > 0 && x.Names[i-1].Name >= y.Name {
			return false
		}
	}
	return true
}

// levelsByWords are the inodes that paths of no name, of one, of two and so on lead to; at most ten such lists, as a ring has no end.
func levelsByWords(names impl.Names) [][]int {
	levels := [][]int{{0}}
	for len(levels) < 10 {
		var next []int
		for _, number := range levels[len(levels)-1] {
			for _, y := range names.Inodes[number].Names {
				if !slices.Contains(next, y.File) {
					next = append(next, y.File)
				}
			}
		}
		if len(next) == 0 {
			break
		}
		levels = append(levels, next)
	}
	return levels
}

func copyInodes(names impl.Names) impl.Names {
	out := impl.Names{Inodes: slices.Clone(names.Inodes)}
	for i, x := range out.Inodes {
		out.Inodes[i].Names = slices.Clone(x.Names)
	}
	return out
}

// goodRolls are names that are good, each in its own way.
func goodRolls() []string {
	return []string{
		"", "/a", "/a/", "-", "- - /a -", "/a /b=/a", "/a/ /a/b", "/a/ /b/", "/a/ /a/b/ /a/b/c/", "/a/b/c /a/b/ /a/", "/a/ /a/f /f=/a/f /g", "- /d/ - /d/f /d/g=/d/f /f=/d/f",
		"/d/ /e/ /d/f /e/f=/d/f /d/g/ /d/g/h /-", "/a/ /a/a/ /a/a/a/ /a/a/a/a/ /a/a/a/a/a/ /a/a/a/a/a/a/ /a/a/a/a/a/a/a/ /a/a/a/a/a/a/a/f",
	}
}

// badPaths are no paths.
func badPaths() []string {
	l := []string{"", "a", "a/b", "//", "///", "//a", "/a//b", "/a/", "/a/b/", strings.Repeat("/a", 9), strings.Repeat("/", 100000), strings.Repeat("/a", 100000), strings.Repeat("a", 100000)}
	for _, name := range notNames() {
		if name != "a/b" {
			l = append(l, "/"+name+"/a", "/a/"+name)
		}
	}
	return l
}

// badTreesOfNames are not as said, each in one way.
func badTreesOfNames() []impl.Names {
	l := []impl.Names{
		{}, inodesOf(fileOf(0)), inodesOf(fileOf(1)), inodesOf(impl.Inode{Dir: true}), inodesOf(impl.Inode{Dir: true, Links: 2}), inodesOf(impl.Inode{Dir: true, Links: -1}),
		inodesOf(folder("a=1")), inodesOf(folder("a=0")), inodesOf(folder("a=-1")), inodesOf(folder("a=1"), fileOf(0)), inodesOf(folder("a=1"), fileOf(2)), inodesOf(folder(""), fileOf(1)),
		inodesOf(folder(""), folder("")), inodesOf(folder("a=1 b=1"), folder("")), inodesOf(folder("a=1"), folder("b=1")), inodesOf(folder(""), folder("a=2"), folder("b=1")),
		inodesOf(folder("a=1"), folder("a=2"), folder("a=1")), inodesOf(folder("b=1 a=2"), fileOf(1), fileOf(1)), inodesOf(folder("a=1 a=2"), fileOf(1), fileOf(1)), inodesOf(folder("A=1"), fileOf(1)),
		inodesOf(folder("a=1 b=2"), impl.Inode{Links: 1, Names: []impl.Name{entry("c", 2)}}, fileOf(2)), inodesOf(folder(""), impl.Inode{Dir: true}),
		chain(9).laid(), chain(59).laid(), manyNames(21).laid(), manyFiles(61).laid(), {Inodes: make([]impl.Inode, 60)}, {Inodes: make([]impl.Inode, 100000)},
	}
	for _, n := range oddNumbers() {
		if n != 1 {
			l = append(l, inodesOf(folder("a=1"), fileOf(n)), inodesOf(impl.Inode{Dir: true, Links: n}), inodesOf(impl.Inode{Dir: true, Links: 1, Names: []impl.Name{entry("a", n)}}, fileOf(1)))
		}
	}
	huge := folder("")
	huge.Names = make([]impl.Name, 100000)
	return append(l, inodesOf(huge), inodesOf(folder("a=1"), huge))
}

func wantNoPath(t *testing.T, names impl.Names, path string, want int) {
	t.Helper()
	if number, code := impl.WalkPath(names, path); number != 0 || code != want {
		t.Fatalf("WalkPath of %q: got %d %d, want 0 %d", path, number, code, want)
	}
	if l, code := impl.ListDir(names, path); len(l) != 0 || code != want {
		t.Fatalf("ListDir of %q: got %v %d, want none and %d", path, l, code, want)
	}
	if links, code := impl.LinksOf(names, path); links != 0 || code != want {
		t.Fatalf("LinksOf of %q: got %d %d, want 0 %d", path, links, code, want)
	}
}

func wantNamesRefused(t *testing.T, names impl.Names) {
	t.Helper()
	if impl.GoodNames(names) {
		t.Fatalf("%v is good", names)
	}
	if l, ok := impl.PathsOf(names); ok || len(l) != 0 {
		t.Fatalf("PathsOf of %v: got %v %v, want the zero answer", names, l, ok)
	}
	for _, path := range []string{"/", "/a", "/x", "/a/b", "/x/y", "", "x", "//"} {
		wantNoPath(t, names, path, impl.ErrBad)
		for kind := -1; kind <= 8; kind++ {
			got, code := impl.DoName(names, impl.NameOp{Kind: kind, Path: path, To: "/z"})
			if code != impl.ErrBad || len(got.Inodes) != 0 {
				t.Fatalf("DoName of %v, %d: got %v %d, want none and ErrBad", names, kind, got, code)
			}
		}
	}
}

func TestBadTreesOfNamesAreRefused(t *testing.T) {
	for _, names := range badTreesOfNames() {
		if goodByWords(names) {
			t.Fatalf("%v is good by the words", names)
		}
		held := copyInodes(names)
		wantNamesRefused(t, names)
		wantTreeOfNames(t, "what was refused", names, held)
	}
}

func TestBadPathsAreRefused(t *testing.T) {
	b := rollIn("/a/ /a/f")
	names := b.laid()
	for _, path := range badPaths() {
		if isPathByTrial(path) {
			t.Fatalf("%q is a path by trial", path)
		}
		wantNoPath(t, names, path, impl.ErrBad)
		ops := []impl.NameOp{{Kind: impl.OpLink, Path: "/a/f", To: path}, {Kind: impl.OpRename, Path: "/a/f", To: path}}
		for kind := impl.OpMake; kind <= impl.OpRename; kind++ {
			ops = append(ops, impl.NameOp{Kind: kind, Path: path, To: "/z"})
		}
		for _, op := range ops {
			got, code := impl.DoName(names, op)
			if code != impl.ErrBad || !sameTreeOfNames(got, b.laid()) {
				t.Fatalf("DoName of %v: got %v %d, want them as they were, and ErrBad", op, got, code)
			}
		}
		got, codes, ok := impl.PlayNames(ops)
		if !ok || !sameTreeOfNames(got, impl.NewNames()) || slices.ContainsFunc(codes, func(code int) bool { return code != impl.ErrBad }) {
			t.Fatalf("PlayNames of %q: got %v %v %v", path, got, codes, ok)
		}
	}
}

func TestOddNumbersInOps(t *testing.T) {
	b := rollIn("/a/ /a/f /g")
	var l []impl.NameOp
	for _, n := range oddNumbers() {
		for _, path := range []string{"/", "/g", "/x", "/a/f", "x"} {
			checkName(t, b, impl.NameOp{Kind: n, Path: path, To: "/y"})
		}
		if n < 1 || n > 6 {
			l = append(l, impl.NameOp{Kind: n, Path: "/x", To: "/y"})
		}
	}
	wantNamesPlayed(t, "Kinds that are none", l[:100], impl.NewNames(), slices.Repeat([]int{impl.ErrBad}, 100))
}

// checkGoodTreeOfNames: what is good by the words is good, and answered; what is not is neither.
func checkGoodTreeOfNames(t *testing.T, names impl.Names) bool {
	t.Helper()
	good := goodByWords(names)
	if impl.GoodNames(names) != good {
		t.Fatalf("GoodNames of %v: got %v", names, !good)
	}
	if _, ok := impl.PathsOf(names); ok != good {
		t.Fatalf("PathsOf of %v: told %v", names, ok)
	}
	got, code := impl.DoName(names, impl.NameOp{Kind: impl.OpUnlink, Path: "/never-there"})
	if good && (code != impl.ErrNoEnt || !sameTreeOfNames(got, names)) {
		t.Fatalf("DoName of %v: got %v %d, want them as they were, and ErrNoEnt", names, got, code)
	}
	if !good && (code != impl.ErrBad || len(got.Inodes) != 0) {
		t.Fatalf("DoName of %v: got %v %d, want none and ErrBad", names, got, code)
	}
	return good
}

// changedTreesOfNames differ from names in one number, one name or one inode.
func changedTreesOfNames(names impl.Names) []impl.Names {
	var l []impl.Names
	change := func(by func(c *impl.Names)) {
		c := copyInodes(names)
		by(&c)
		l = append(l, c)
	}
	for i, x := range names.Inodes {
		change(func(c *impl.Names) { c.Inodes[i].Dir = !x.Dir })
		change(func(c *impl.Names) { c.Inodes[i] = impl.Inode{} })
		change(func(c *impl.Names) { c.Inodes[i].Names = nil })
		change(func(c *impl.Names) { c.Inodes = slices.Delete(c.Inodes, i, i+1) })
		change(func(c *impl.Names) { c.Inodes[i], c.Inodes[0] = c.Inodes[0], c.Inodes[i] })
		for _, by := range []int{-2, -1, 1, 2, math.MaxInt, math.MinInt} {
			change(func(c *impl.Names) { c.Inodes[i].Links += by })
		}
		for file := -1; file <= len(names.Inodes); file++ {
			change(func(c *impl.Names) { c.Inodes[i].Names = append(c.Inodes[i].Names, entry("zz", file)) })
			change(func(c *impl.Names) { c.Inodes[i].Names = slices.Insert(c.Inodes[i].Names, 0, entry("-", file)) })
			for k := range x.Names {
				change(func(c *impl.Names) { c.Inodes[i].Names[k].File = file })
			}
		}
		for k := range x.Names {
			change(func(c *impl.Names) { c.Inodes[i].Names = slices.Delete(c.Inodes[i].Names, k, k+1) })
			change(func(c *impl.Names) { c.Inodes[i].Names = slices.Insert(c.Inodes[i].Names, k, x.Names[k]) })
			for _, name := range []string{"", "a", "b", "zz", "Z", "0", "a/b", "abcdefghijklm"} {
				change(func(c *impl.Names) { c.Inodes[i].Names[k].Name = name })
			}
		}
	}
	for _, x := range []impl.Inode{{}, fileOf(1), folder(""), {Dir: true}, folder("a=1")} {
		change(func(c *impl.Names) { c.Inodes = append(c.Inodes, x) })
	}
	return l
}

func TestGoodNamesIsWhatTheWordsSay(t *testing.T) {
	var c tally
	for _, text := range goodRolls() {
		if !goodByWords(treeOfNames(text)) {
			t.Errorf("%s is not good by the words", text)
		}
		for _, one := range changedTreesOfNames(treeOfNames(text)) {
			c.count(checkGoodTreeOfNames(t, one))
		}
	}
	for _, text := range []string{"/a", "/a/ /a/b", "/a /b=/a", "/a/ -", "/a/ /b/ /a/c/"} {
		for _, one := range changedTreesOfNames(treeOfNames(text)) {
			for _, two := range changedTreesOfNames(one) {
				c.count(checkGoodTreeOfNames(t, two))
			}
		}
	}
	c.wantBoth(t, 200, 2000)
}

// fewInodes are all that may or may not stand in a list of three.
func fewInodes() []impl.Inode {
	l := []impl.Inode{{}, fileOf(1), fileOf(2), fileOf(3), {Dir: true}, {Dir: true, Links: 2}}
	for _, text := range []string{"", "a=1", "a=2", "a=1 b=2", "a=2 b=1", "a=1 b=1", "a=2 b=2", "a=0", "a=3"} {
		l = append(l, folder(text))
	}
	return append(l, impl.Inode{Links: 1, Names: []impl.Name{entry("a", 2)}})
}

func TestNamesOfFewInodesInAllWays(t *testing.T) {
	good := 0
	for many := range 4 {
		for _, row := range rowsOf(many, fewInodes()...) {
			if checkGoodTreeOfNames(t, inodesOf(row...)) {
				good++
			}
		}
	}
	if good < 20 {
		t.Errorf("%d were good", good)
	}
}

// spoiltInode is what no names have.
func spoiltInode() impl.Inode {
	return impl.Inode{Dir: true, Links: -9, Names: []impl.Name{entry("spoilt", -9)}}
}

// roomyNames has room behind each of its lists, with what would be good there and is none of it.
func roomyNames(text string) impl.Names {
	names := treeOfNames(text)
	for i, x := range names.Inodes {
		names.Inodes[i].Names = withRoom(x.Names, entry("zzz", 1), entry("zzzz", 2))
	}
	names.Inodes = withRoom(names.Inodes, impl.Inode{Links: 77}, impl.Inode{Dir: true, Links: 78})
	return names
}

func listsOfNames(names impl.Names) [][]impl.Name {
	var l [][]impl.Name
	for _, x := range names.Inodes {
		l = append(l, x.Names)
	}
	return l
}

// wantRoomyNames: no list was written into, also behind its length.
func wantRoomyNames(t *testing.T, what string, names impl.Names, text string) {
	t.Helper()
	fresh := roomyNames(text)
	if len(names.Inodes) != len(fresh.Inodes) || !slices.EqualFunc(wholeOf(names.Inodes), wholeOf(fresh.Inodes), sameInode) {
		t.Fatalf("%s: written into: %v", what, wholeOf(names.Inodes))
	}
	wantAsFresh(t, what, listsOfNames(names), listsOfNames(fresh))
}

// wantNamesApart: each list of an answer is its own.
func wantNamesApart(t *testing.T, what string, names impl.Names, text string, answer impl.Names) {
	t.Helper()
	for _, x := range wholeOf(answer.Inodes) {
		if x.Links >= 77 {
			t.Fatalf("%s: an inode from behind a length", what)
		}
	}
	wantRoomyNames(t, what, names, text)
	held, lists := copyInodes(answer), listsOfNames(names)
	spoil(names.Inodes, spoiltInode())
	wantTreeOfNames(t, what+", the inodes of the argument spoilt", answer, held)
	copy(names.Inodes[:cap(names.Inodes)], wholeOf(roomyNames(text).Inodes))
	for i, l := range lists {
		names.Inodes[i].Names = l
	}
	listsOfAnswer := listsOfNames(answer)
	spoil(answer.Inodes, spoiltInode())
	wantRoomyNames(t, what+", the inodes of the answer spoilt", names, text)
	wantListsApart(t, what, lists, listsOfNames(roomyNames(text)), listsOfAnswer, entry("spoilt", -9))
}

// opsOnRolls are done in some of the good rolls and refused in others.
func opsOnRolls() []impl.NameOp {
	return opsIn(
		"make /x", "mkdir /x", "make /a", "make /a/x", "mkdir /d/x", "unlink /a", "unlink /a/b", "unlink /d/f", "rmdir /a", "rmdir /d", "rmdir /a/b/c", "rmdir /b", "link /a /x", "link /a/b /x", "link /d/f /x", "link /a /b",
		"rename /a /x", "rename /a /a", "rename /a /b", "rename /a /a/x", "rename /d /x", "rename /d/f /g", "rename /a/b /b", "rename /a/f /g", "make /", "what /a", "make x", "link /a x",
	)
}

func TestNamesAnswersAreNewMemory(t *testing.T) {
	told := map[string]int{}
	for _, text := range goodRolls() {
		for _, op := range opsOnRolls() {
			plain, code := impl.DoName(treeOfNames(text), op)
			names := roomyNames(text)
			got, toldCode := impl.DoName(names, op)
			if toldCode != code || !sameTreeOfNames(got, plain) {
				t.Fatalf("%v in %s: what lies behind a length counts: got %v %d", op, text, got, toldCode)
			}
			told[fmt.Sprint(op.Kind, code == impl.ErrNone)]++
			wantNamesApart(t, fmt.Sprint(op, " in ", text), names, text, got)
		}
	}
	for kind := impl.OpMake; kind <= impl.OpRename; kind++ {
		if told[fmt.Sprint(kind, true)] < 2 || told[fmt.Sprint(kind, false)] < 2 {
			t.Errorf("the Kind %d was done %d times, refused %d times", kind, told[fmt.Sprint(kind, true)], told[fmt.Sprint(kind, false)])
		}
	}
}

func TestQuestionsWriteIntoNoNames(t *testing.T) {
	for _, text := range goodRolls() {
		names, b := roomyNames(text), rollIn(text)
		for range 2 {
			checkRoll(t, names, b, "/x", "/zzz", "/a/zzz", "/a/x", "x")
			paths, _ := impl.PathsOf(names)
			spoil(paths, "spoilt")
			for _, path := range b.all() {
				l, _ := impl.ListDir(names, path)
				for _, x := range l[:cap(l)] {
					if strings.HasPrefix(x.Name, "zzz") {
						t.Fatalf("ListDir of %s: %v lies behind a length", path, x)
					}
				}
				spoil(l, entry("spoilt", -9))
			}
			wantRoomyNames(t, "asked", names, text)
		}
	}
}

// What is not good by its length alone is not made good by what lies behind it, nor the other way.
func TestListsOfNamesEndAtTheirLength(t *testing.T) {
	many := manyFiles(61).laid()
	many.Inodes = many.Inodes[:60]
	wantGoodNames(t, "a name of what lies behind the length", many, false)
	for i, x := range many.Inodes[:4] {
		many.Inodes[i].Names = slices.DeleteFunc(slices.Clone(x.Names), func(y impl.Name) bool { return y.File == 60 })
	}
	wantGoodNames(t, "60 inodes, and one behind them", many, true)
	wide := manyNames(21).laid()
	wide.Inodes[1].Names = wide.Inodes[1].Names[:20]
	wide.Inodes[2].Links--
	wantGoodNames(t, "20 names, and one behind them", wide, true)
	got, code := impl.DoName(wide, impl.NameOp{Kind: impl.OpMake, Path: "/d/x"})
	if code != impl.ErrFull || !sameTreeOfNames(got, wide) {
		t.Errorf("into 20 names: got %v %d", got, code)
	}
	none := inodesOf(folder("a=1"), fileOf(1))
	none.Inodes = none.Inodes[:0]
	wantNamesRefused(t, none)
}

// Two answers of the same names share nothing.
func TestAnswersOfTheSameNamesAreApart(t *testing.T) {
	text := "/a/ /a/f /g=/a/f"
	names := roomyNames(text)
	one, codeOne := impl.DoName(names, opIn("make /x"))
	two, codeTwo := impl.DoName(names, opIn("make /y"))
	three, codeThree := impl.DoName(one, opIn("unlink /a/f"))
	four, codeFour := impl.DoName(one, opIn("make /a"))
	five, codeFive := impl.DoName(one, opIn("rename /g /a/f"))
	if codes := []int{codeOne, codeTwo, codeThree, codeFour, codeFive}; !slices.Equal(codes, []int{0, 0, 0, impl.ErrExist, 0}) {
		t.Fatalf("the codes %v", codes)
	}
	wantTreeOfNames(t, "the third", three, treeOfNames("/a/ /g /x"))
	for _, l := range listsOfNames(one) {
		spoil(l, entry("spoilt", -9))
	}
	spoil(one.Inodes, spoiltInode())
	wantTreeOfNames(t, "the second", two, treeOfNames("/a/ /a/f /g=/a/f /y"))
	wantTreeOfNames(t, "the fourth", four, treeOfNames("/a/ /a/f /g=/a/f /x"))
	wantTreeOfNames(t, "the fifth", five, treeOfNames("/a/ /a/f /g=/a/f /x"))
	wantRoomyNames(t, "all five", names, text)
}

func TestPlayedNamesAreNewMemory(t *testing.T) {
	texts := []string{"mkdir /a", "make /a/f", "make /a", "link /a/f /g", "mkdir /b"}
	want, codes := treeOfNames("/a/ /a/f /g=/a/f /b/"), []int{0, 0, impl.ErrExist, 0, 0}
	behind := opIn("make /behind")
	l := withRoom(opsIn(texts...), behind, behind)
	names, told, ok := impl.PlayNames(l)
	if !slices.Equal(wholeOf(l), append(opsIn(texts...), behind, behind)) {
		t.Fatalf("PlayNames wrote into %v", wholeOf(l))
	}
	spoil(l, opIn("rmdir /b"))
	if !ok || !sameTreeOfNames(names, want) || !slices.Equal(told, codes) {
		t.Fatalf("got %v %v %v", names, told, ok)
	}
	held := copyInodes(names)
	for i, l := range listsOfNames(names) {
		spoil(l, entry("spoilt", -9))
		for k := i + 1; k < len(held.Inodes); k++ {
			if !sameInode(names.Inodes[k], held.Inodes[k]) {
				t.Errorf("the inodes %d and %d share memory", i, k)
			}
		}
	}
	spoil(names.Inodes, spoiltInode())
	spoil(told, 99)
	wantNamesPlayed(t, "again", opsIn(texts...), want, codes)
}

func TestNewNamesShareNothing(t *testing.T) {
	one := impl.NewNames()
	spoil(one.Inodes[0].Names, entry("spoilt", -9))
	spoil(one.Inodes, spoiltInode())
	wantTreeOfNames(t, "the second", impl.NewNames(), treeOfNames(""))
}
