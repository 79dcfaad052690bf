package tests

import (
	"fmt"
	"maps"
	"slices"
	"strings"
	"testing"

	"loop.example/g00261/impl"
)

// roll tells names by their whole paths: which inode each means, which inodes are directories, and how many inodes the list has.
type roll struct {
	paths map[string]int
	dirs  map[int]bool
	many  int
}

// rollIn reads words, each of them the next inode: a path with a '/' behind it is a directory, one without a file, '-' an inode that is not in use. Two paths with '=' between are no inode: the first one is one more name of what the second one means.
func rollIn(text string) roll {
	b := roll{paths: map[string]int{"/": 0}, dirs: map[int]bool{0: true}, many: 1}
	for _, word := range strings.Fields(text) {
		path, of, isLink := strings.Cut(word, "=")
		if isLink {
			b.paths[path] = b.paths[of]
			continue
		}
		path, isDir := strings.CutSuffix(word, "/")
		if word != "-" {
			b.paths[path] = b.many
		}
		if isDir {
			b.dirs[b.many] = true
		}
		b.many++
	}
	return b
}

func treeOfNames(text string) impl.Names {
	return rollIn(text).laid()
}

// cutPath parts a path's last name from the path ahead of it.
func cutPath(path string) (string, string) {
	at := strings.LastIndex(path, "/")
	return path[:max(at, 1)], path[at+1:]
}

func (b roll) copied() roll {
	return roll{paths: maps.Clone(b.paths), dirs: maps.Clone(b.dirs), many: b.many}
}

func (b roll) all() []string {
	return slices.Sorted(maps.Keys(b.paths))
}

func (b roll) laid() impl.Names {
	t := impl.Names{Inodes: make([]impl.Inode, b.many)}
	for _, path := range b.all() {
		number := b.paths[path]
		t.Inodes[number].Dir = b.dirs[number]
		t.Inodes[number].Links++
		if path != "/" {
			ahead, name := cutPath(path)
			up := &t.Inodes[b.paths[ahead]]
			up.Names = append(up.Names, entry(name, number))
		}
	}
	return t
}

func (b roll) isDir(path string) bool {
	number, is := b.paths[path]
	return is && b.dirs[number]
}

// within are the names of what is just below a path.
func (b roll) within(path string) []impl.Name {
	var l []impl.Name
	for _, p := range b.all() {
		if ahead, name := cutPath(p); p != "/" && ahead == path {
			l = append(l, entry(name, b.paths[p]))
		}
	}
	return l
}

func (b roll) namesOf(number int) int {
	many := 0
	for _, n := range b.paths {
		if n == number {
			many++
		}
	}
	return many
}

func isPathByTrial(s string) bool {
	if s == "/" {
		return true
	}
	for many := 0; s != ""; many++ {
		rest, is := strings.CutPrefix(s, "/")
		if !is || many == 8 {
			return false
		}
		end := strings.IndexByte(rest+"/", '/')
		if !isNameByTrial(rest[:end]) {
			return false
		}
		if s = rest[end:]; s == "" {
			return true
		}
	}
	return false
}

// walk asks for each beginning of a path, from the left.
func (b roll) walk(path string) (int, int) {
	if !isPathByTrial(path) {
		return 0, impl.ErrBad
	}
	ahead := "/"
	for at := 1; at <= len(path) && path != "/"; at++ {
		if at < len(path) && path[at] != '/' {
			continue
		}
		if !b.isDir(ahead) {
			return 0, impl.ErrNotDir
		}
		ahead = path[:at]
		if _, is := b.paths[ahead]; !is {
			return 0, impl.ErrNoEnt
		}
	}
	return b.paths[path], impl.ErrNone
}

// aheadCode is what is told of the directory in which a path's last name is.
func (b roll) aheadCode(path string) int {
	if path == "/" {
		return impl.ErrInval
	}
	ahead, _ := cutPath(path)
	_, code := b.walk(ahead)
	if code == impl.ErrNone && !b.isDir(ahead) {
		return impl.ErrNotDir
	}
	return code
}

func (b roll) isFull(path string) bool {
	ahead, _ := cutPath(path)
	return len(b.within(ahead)) >= 20
}

func (b roll) has(path string) bool {
	_, is := b.paths[path]
	return is
}

func hasTo(kind int) bool {
	return kind == impl.OpLink || kind == impl.OpRename
}

// play does an op by the words of the chapter.
func (b roll) play(op impl.NameOp) (roll, int) {
	if op.Kind < 1 || op.Kind > 6 || !isPathByTrial(op.Path) || hasTo(op.Kind) && !isPathByTrial(op.To) {
		return b, impl.ErrBad
	}
	if code := b.aheadCode(op.Path); code != impl.ErrNone {
		return b, code
	}
	if hasTo(op.Kind) {
		if code := b.aheadCode(op.To); code != impl.ErrNone {
			return b, code
		}
	}
	code := b.code(op)
	if code != impl.ErrNone {
		return b, code
	}
	switch op.Kind {
	case impl.OpMake, impl.OpMkdir:
		return b.made(op.Path, op.Kind == impl.OpMkdir), code
	case impl.OpLink:
		next := b.copied()
		next.paths[op.To] = b.paths[op.Path]
		return next, code
	case impl.OpUnlink, impl.OpRmdir:
		return b.without(op.Path), code
	}
	return b.renamed(op.Path, op.To), code
}

// refusal is a code, and whether what it tells holds.
type refusal struct {
	code  int
	holds bool
}

// firstCode is that of the first one that holds.
func firstCode(l ...refusal) int {
	for _, x := range l {
		if x.holds {
			return x.code
		}
	}
	return impl.ErrNone
}

func (b roll) code(op impl.NameOp) int {
	path, to := op.Path, op.To
	missing := refusal{impl.ErrNoEnt, !b.has(path)}
	noFile := refusal{impl.ErrIsDir, b.isDir(path)}
	switch op.Kind {
	case impl.OpMake, impl.OpMkdir:
		return firstCode(refusal{impl.ErrExist, b.has(path)}, refusal{impl.ErrFull, b.unused() == 60 || b.isFull(path)})
	case impl.OpUnlink:
		return firstCode(missing, noFile)
	case impl.OpRmdir:
		return firstCode(missing, refusal{impl.ErrNotDir, !b.isDir(path)}, refusal{impl.ErrNotEmpty, len(b.within(path)) > 0})
	case impl.OpLink:
		return firstCode(missing, noFile, refusal{impl.ErrExist, b.has(to)}, refusal{impl.ErrFull, b.isFull(to)})
	}
	dirAhead, _ := cutPath(path)
	dirTo, _ := cutPath(to)
	return firstCode(
		missing,
		refusal{impl.ErrNone, b.has(to) && b.paths[path] == b.paths[to]},
		refusal{impl.ErrInval, b.isDir(path) && strings.HasPrefix(to+"/", path+"/")},
		refusal{impl.ErrNotDir, b.isDir(path) && b.has(to) && !b.isDir(to)},
		refusal{impl.ErrNotEmpty, b.isDir(path) && b.has(to) && len(b.within(to)) > 0},
		refusal{impl.ErrIsDir, !b.isDir(path) && b.isDir(to)},
		refusal{impl.ErrFull, !b.has(to) && b.isFull(to) && dirAhead != dirTo},
		refusal{impl.ErrFull, slices.ContainsFunc(b.renamed(path, to).all(), func(p string) bool { return strings.Count(p, "/") > 8 })},
	)
}

func (b roll) unused() int {
	for number := range b.many {
		if b.namesOf(number) == 0 {
			return number
		}
	}
	return b.many
}

func (b roll) made(path string, isDir bool) roll {
	next := b.copied()
	number := b.unused()
	next.paths[path] = number
	next.many = max(b.many, number+1)
	if isDir {
		next.dirs[number] = true
	}
	return next
}

func (b roll) without(path string) roll {
	next := b.copied()
	delete(next.paths, path)
	if next.namesOf(b.paths[path]) == 0 {
		delete(next.dirs, b.paths[path])
	}
	return next
}

// renamed exchanges the beginning of each path that lies below, and of the path itself.
func (b roll) renamed(path string, to string) roll {
	if b.has(to) && b.paths[path] == b.paths[to] {
		return b
	}
	next := b.copied()
	if b.has(to) {
		next = b.without(to)
	}
	for p, number := range b.paths {
		if p == path || strings.HasPrefix(p, path+"/") {
			delete(next.paths, p)
			next.paths[to+p[len(path):]] = number
		}
	}
	return next
}

var wordsOfOps = []string{"", "make", "mkdir", "link", "unlink", "rmdir", "rename"}

// opIn reads a word of the Kind, and the paths, a blank ahead of each.
func opIn(text string) impl.NameOp {
	words := strings.Split(text, " ")
	op := impl.NameOp{Kind: slices.Index(wordsOfOps, words[0]), Path: words[1]}
	if len(words) > 2 {
		op.To = words[2]
	}
	return op
}

func opsIn(texts ...string) []impl.NameOp {
	var l []impl.NameOp
	for _, text := range texts {
		l = append(l, opIn(text))
	}
	return l
}

func sameInode(a impl.Inode, b impl.Inode) bool {
	return a.Dir == b.Dir && a.Links == b.Links && slices.Equal(a.Names, b.Names)
}

func sameTreeOfNames(a impl.Names, b impl.Names) bool {
	return slices.EqualFunc(a.Inodes, b.Inodes, sameInode)
}

func wantTreeOfNames(t *testing.T, what string, got impl.Names, want impl.Names) {
	t.Helper()
	if !sameTreeOfNames(got, want) {
		t.Fatalf("%s: got %v, want %v", what, got, want)
	}
}

func wantPaths(t *testing.T, names impl.Names, want []string) {
	t.Helper()
	if got, ok := impl.PathsOf(names); !ok || !slices.Equal(got, want) {
		t.Fatalf("PathsOf of %v: got %v %v, want %v", names, got, ok, want)
	}
}

// checkPath: all three questions that take a path tell what the roll does.
func checkPath(t *testing.T, names impl.Names, b roll, path string) {
	t.Helper()
	number, code := b.walk(path)
	if got, told := impl.WalkPath(names, path); got != number || told != code {
		t.Fatalf("WalkPath of %v, %q: got %d %d, want %d %d", names, path, got, told, number, code)
	}
	links := 0
	if code == impl.ErrNone {
		links = b.namesOf(number)
	}
	if got, told := impl.LinksOf(names, path); got != links || told != code {
		t.Fatalf("LinksOf of %v, %q: got %d %d, want %d %d", names, path, got, told, links, code)
	}
	var within []impl.Name
	if code == impl.ErrNone {
		within = b.within(path)
		if !b.isDir(path) {
			code = impl.ErrNotDir
		}
	}
	if got, told := impl.ListDir(names, path); !slices.Equal(got, within) || told != code {
		t.Fatalf("ListDir of %v, %q: got %v %d, want %v %d", names, path, got, told, within, code)
	}
}

// checkRoll: the names are good, and have all paths of the roll and none else of those that are asked for.
func checkRoll(t *testing.T, names impl.Names, b roll, asked ...string) {
	t.Helper()
	if !impl.GoodNames(names) {
		t.Fatalf("not good: %v", names)
	}
	wantPaths(t, names, b.all())
	for _, path := range slices.Concat(b.all(), asked) {
		checkPath(t, names, b, path)
	}
}

// checkName does an op, and asks for what it left: all paths of before and of then, and those of the op.
func checkName(t *testing.T, b roll, op impl.NameOp) (roll, int) {
	t.Helper()
	before := b.laid()
	got, code := impl.DoName(before, op)
	next, want := b.play(op)
	if code != want {
		t.Fatalf("%v in %v: got the code %d, want %d", op, before, code, want)
	}
	wantTreeOfNames(t, fmt.Sprint(op, " in ", before), got, next.laid())
	wantTreeOfNames(t, fmt.Sprint(op, ": the argument"), before, b.laid())
	if code != impl.ErrNone {
		wantTreeOfNames(t, fmt.Sprint(op, " is refused"), got, before)
	}
	checkRoll(t, got, next, append(b.all(), op.Path, op.To, op.Path+"/a", op.To+"/a")...)
	return next, code
}

// allOps are all that can be done with few paths.
func allOps(paths ...string) []impl.NameOp {
	var l []impl.NameOp
	for _, path := range paths {
		for _, kind := range []int{impl.OpMake, impl.OpMkdir, impl.OpUnlink, impl.OpRmdir} {
			l = append(l, impl.NameOp{Kind: kind, Path: path})
		}
		for _, to := range paths {
			l = append(l, impl.NameOp{Kind: impl.OpLink, Path: path, To: to}, impl.NameOp{Kind: impl.OpRename, Path: path, To: to})
		}
	}
	return l
}

// checkAllFrom goes from one roll to all that ops lead to, till there are so many of them, and does each op in each.
func checkAllFrom(t *testing.T, b roll, many int, ops []impl.NameOp) map[int]int {
	t.Helper()
	codes := map[int]int{}
	met := map[string]bool{fmt.Sprint(b.laid()): true}
	for work := []roll{b}; len(work) > 0; work = work[1:] {
		for _, op := range ops {
			next, code := checkName(t, work[0], op)
			codes[code]++
			if key := fmt.Sprint(next.laid()); !met[key] && len(met) < many {
				met[key] = true
				work = append(work, next)
			}
		}
	}
	return codes
}

func TestNamesOfFewPathsInAllWays(t *testing.T) {
	codes := checkAllFrom(t, rollIn(""), 400, allOps("/", "/a", "/b", "/a/a", "/a/b", "/b/a"))
	for code := impl.ErrNone; code <= impl.ErrInval; code++ {
		if code != impl.ErrBad && codes[code] < 20 {
			t.Errorf("the code %d was told %d times", code, codes[code])
		}
	}
	checkAllFrom(t, rollIn("/a/ /a/b/ /a/b/c/ /a/b/c/d /e=/a/b/c/d"), 150, allOps("/a", "/e", "/a/b", "/a/b/c", "/a/b/c/d"))
}

// At the limits, in all ways: one name less than a directory may have, one inode less than there may be, a path one name shorter than it may be.
func TestNamesAtTheirLimitsInAllWays(t *testing.T) {
	deep := rollIn("/1/ /1/2/ /1/2/3/ /1/2/3/4/ /1/2/3/4/5/ /1/2/3/4/5/6/ /a/ /a/b/ /a/b/c")
	codes := checkAllFrom(t, deep, 60, allOps("/a", "/a/b", "/1/2/3/4/5/a", "/1/2/3/4/5/6/a", "/1/2/3/4/5/6/a/b", "/1/2/3/4/5/6/a/b/c"))
	if codes[impl.ErrFull] < 10 {
		t.Errorf("too deep %d times", codes[impl.ErrFull])
	}
	wide := rollIn("/d/ /f /e/")
	for i := range 19 {
		wide.paths[fmt.Sprintf("/d/n%d", i)] = wide.paths["/f"]
	}
	codes = checkAllFrom(t, wide, 25, allOps("/f", "/g", "/d/n0", "/d/f", "/d/g"))
	if codes[impl.ErrFull] < 10 {
		t.Errorf("the directory was full %d times", codes[impl.ErrFull])
	}
	codes = checkAllFrom(t, manyFiles(59), 12, allOps("/a/n0", "/a/f", "/g"))
	if codes[impl.ErrFull] < 5 {
		t.Errorf("no inode was left %d times", codes[impl.ErrFull])
	}
}

// manyFiles has so many inodes, `/` among them: three directories, and the others files in these.
func manyFiles(inodes int) roll {
	b := rollIn("/a/ /b/ /c/")
	for i := range inodes - 4 {
		ahead := []string{"/a", "/b", "/c"}[i%3]
		b.paths[fmt.Sprintf("%s/n%d", ahead, i/3)] = b.many
		b.many++
	}
	return b
}

// somePath has up to so many of few names.
func somePath(s *steps, most int, names int) string {
	path := ""
	for range 1 + s.below(most) {
		path += "/" + firstNames(names)[s.below(names)]
	}
	return path
}

// pathOf is one that is there, one just below such a one, or any.
func pathOf(s *steps, b roll, most int, names int) string {
	all := b.all()
	path := all[s.below(len(all))]
	switch s.below(6) {
	case 0, 1:
		return path
	case 2, 3, 4:
		return strings.TrimSuffix(path, "/") + "/" + firstNames(names)[s.below(names)]
	}
	return somePath(s, most, names)
}

func someOp(s *steps, b roll, most int, names int) impl.NameOp {
	op := impl.NameOp{Kind: 1 + s.below(6), Path: pathOf(s, b, most, names)}
	if hasTo(op.Kind) {
		op.To = pathOf(s, b, most, names)
	}
	return op
}

func TestARowOfOpsInNoOrder(t *testing.T) {
	codes := map[int]int{}
	for seed := range 40 {
		s := steps(1300 + seed)
		b := rollIn("")
		names := 2 + s.below(4)
		for range 120 {
			next, code := checkName(t, b, someOp(&s, b, 9, names))
			codes[code]++
			b = next
		}
	}
	for code := impl.ErrNone; code <= impl.ErrInval; code++ {
		if codes[code] < 10 {
			t.Errorf("the code %d was told %d times", code, codes[code])
		}
	}
}

// Most of these make something, so that all inodes come into use and directories fill.
func TestARowOfOpsThatFills(t *testing.T) {
	full, filled := 0, 0
	for seed := range 4 {
		s := steps(1370 + seed)
		b := rollIn("")
		for range 300 {
			op := someOp(&s, b, 3, 30)
			if s.below(5) > 0 {
				op.Kind = impl.OpMake + s.below(2)
			}
			next, code := checkName(t, b, op)
			if code == impl.ErrFull {
				full++
			}
			b = next
		}
		if b.many == 60 {
			filled++
		}
	}
	if full < 20 || filled < 2 {
		t.Errorf("full %d times, all inodes in use in %d rows", full, filled)
	}
}

// What is renamed is there by its new name alone, with all that is below it.
func TestRenameMovesAllThatIsBelow(t *testing.T) {
	before := "/a/ /a/f /a/b/ /a/b/c/ /a/b/c/f /x/ /x/y/ /g=/a/f /a/h=/a/b/c/f"
	for _, to := range []string{"/z", "/x/a", "/x/y", "/x/y/a", "/a-"} {
		got, code := impl.DoName(treeOfNames(before), impl.NameOp{Kind: impl.OpRename, Path: "/a", To: to})
		if code != impl.ErrNone || !impl.GoodNames(got) {
			t.Fatalf("to %s: got %v %d", to, got, code)
		}
		was := rollIn(before)
		for _, path := range was.all() {
			number := was.paths[path]
			if rest, is := strings.CutPrefix(path, "/a"); is {
				if n, code := impl.WalkPath(got, path); n != 0 || code != impl.ErrNoEnt {
					t.Errorf("to %s: %s is there yet: %d %d", to, path, n, code)
				}
				path = to + rest
			}
			if n, code := impl.WalkPath(got, path); code != impl.ErrNone || n != number && path != "/x/y" {
				t.Errorf("to %s: %s: got %d %d, want %d", to, path, n, code, number)
			}
			if path != "/x/y" {
				wantLinks(t, got, path, was.namesOf(number))
			}
		}
	}
}

func wantLinks(t *testing.T, names impl.Names, path string, want int) {
	t.Helper()
	if got, code := impl.LinksOf(names, path); got != want || code != impl.ErrNone {
		t.Fatalf("LinksOf of %v, %s: got %d %d, want %d", names, path, got, code, want)
	}
}

// What is made is there till it is removed, whatever is done elsewhere.
func TestWhatIsMadeIsThereTillItIsRemoved(t *testing.T) {
	s := steps(1313)
	for range 30 {
		b := rollIn("/keep/ /keep/f")
		for range 40 {
			op := someOp(&s, b, 4, 3)
			if strings.HasPrefix(op.Path, "/keep") || strings.HasPrefix(op.To, "/keep") {
				continue
			}
			b, _ = checkName(t, b, op)
			if b.paths["/keep"] != 1 || b.paths["/keep/f"] != 2 {
				t.Fatalf("%v moved it: %v", op, b.paths)
			}
		}
		names := b.laid()
		for _, op := range opsIn("unlink /keep/f", "rmdir /keep") {
			wantThere(t, names, op.Path, impl.ErrNone)
			next, code := impl.DoName(names, op)
			if code != impl.ErrNone {
				t.Fatalf("%v: got the code %d", op, code)
			}
			names = next
			wantThere(t, names, op.Path, impl.ErrNoEnt)
		}
	}
}

// wantThere: the path is there, or is not, with that code.
func wantThere(t *testing.T, names impl.Names, path string, want int) {
	t.Helper()
	if number, code := impl.WalkPath(names, path); code != want || (number > 0) != (want == impl.ErrNone) {
		t.Fatalf("WalkPath of %v, %s: got %d %d, want the code %d", names, path, number, code, want)
	}
}

// A link more and a link less are told, by each of the names.
func TestLinksAreCounted(t *testing.T) {
	names := treeOfNames("/d/ /f")
	had := []string{"/f"}
	for many := range 20 {
		path := fmt.Sprintf("/d/n%d", many)
		next, code := impl.DoName(names, impl.NameOp{Kind: impl.OpLink, Path: had[many/2], To: path})
		if code != impl.ErrNone {
			t.Fatalf("link %d: got the code %d", many, code)
		}
		names, had = next, append(had, path)
		for _, path := range had {
			wantLinks(t, names, path, len(had))
		}
	}
	for len(had) > 0 {
		next, code := impl.DoName(names, impl.NameOp{Kind: impl.OpUnlink, Path: had[0]})
		if code != impl.ErrNone {
			t.Fatalf("unlink %s: got the code %d", had[0], code)
		}
		wantThere(t, next, had[0], impl.ErrNoEnt)
		names, had = next, had[1:]
		for _, path := range had {
			wantLinks(t, names, path, len(had))
		}
	}
	wantTreeOfNames(t, "without the last", names, treeOfNames("/d/ -"))
}
