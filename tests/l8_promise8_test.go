package tests

import (
	"maps"
	"slices"
	"strconv"
	"strings"
	"sync"
	"testing"

	"loop.example/g00261/impl"
)

// hashByTrial lets 16 bits wrap round by themselves.
func hashByTrial(s string) int {
	h := uint16(7)
	for _, b := range []byte(s) {
		h = 31*h + uint16(b)
	}
	return int(h ^ h>>5)
}

// lowOf is what is left of a number by 2^depth.
func lowOf(n int, depth int) int {
	return n % (1 << depth)
}

// cleft is a bucket, or, where it was cut, two kids: the second one has what has a 1 in the next bit of the hash, from the lowest on.
type cleft struct {
	names map[string]int
	kids  []*cleft
}

// cleftDir is a directory as a tree of cuts, which is changed on the spot.
type cleftDir struct {
	depth int
	root  *cleft
}

func newCleft() *cleftDir {
	return &cleftDir{root: &cleft{names: map[string]int{}}}
}

// bucket is where the bits lead to, and how many of them were asked.
func (c *cleftDir) bucket(bits int) (*cleft, int) {
	at, depth := c.root, 0
	for at.kids != nil {
		at = at.kids[bits>>depth%2]
		depth++
	}
	return at, depth
}

// put answers whether there is room: there is none where four names are alike with it in all eight bits.
func (c *cleftDir) put(x impl.Name) bool {
	hash := hashByTrial(x.Name)
	b, depth := c.bucket(hash)
	if _, is := b.names[x.Name]; is {
		b.names[x.Name] = x.File
		return true
	}
	alike := 0
	for name := range b.names {
		if lowOf(hashByTrial(name), 8) == lowOf(hash, 8) {
			alike++
		}
	}
	if alike == 4 {
		return false
	}
	for len(b.names) == 4 {
		b.cut(depth)
		b, depth = c.bucket(hash)
	}
	b.names[x.Name] = x.File
	c.depth = max(c.depth, depth)
	return true
}

func (b *cleft) cut(depth int) {
	b.kids = []*cleft{{names: map[string]int{}}, {names: map[string]int{}}}
	for name, file := range b.names {
		b.kids[hashByTrial(name)>>depth%2].names[name] = file
	}
	b.names = nil
}

func (c *cleftDir) drop(name string) bool {
	b, _ := c.bucket(hashByTrial(name))
	_, is := b.names[name]
	delete(b.names, name)
	return is
}

// play does as PlayDir does with one name.
func (c *cleftDir) play(x impl.Name) bool {
	if x.File == -1 {
		return c.drop(x.Name)
	}
	return isEntryByTrial(x) && c.put(x)
}

// laid gives buckets their numbers as slots come to them.
func (c *cleftDir) laid() impl.Dir {
	d := impl.Dir{Depth: c.depth}
	numbers := map[*cleft]int{}
	for slot := range 1 << c.depth {
		b, depth := c.bucket(slot)
		if _, is := numbers[b]; !is {
			numbers[b] = len(d.Buckets)
			d.Buckets = append(d.Buckets, impl.Bucket{Depth: depth, Names: entriesOf(b.names)})
		}
		d.Slots = append(d.Slots, numbers[b])
	}
	return d
}

func entriesOf(names map[string]int) []impl.Name {
	var l []impl.Name
	for _, name := range slices.Sorted(maps.Keys(names)) {
		l = append(l, entry(name, names[name]))
	}
	return l
}

// cleftOf takes a good directory.
func cleftOf(d impl.Dir) *cleftDir {
	return &cleftDir{depth: d.Depth, root: cleftAt(d, 0, 0)}
}

func cleftAt(d impl.Dir, low int, depth int) *cleft {
	b := d.Buckets[d.Slots[low]]
	if b.Depth > depth {
		return &cleft{kids: []*cleft{cleftAt(d, low, depth+1), cleftAt(d, low+1<<depth, depth+1)}}
	}
	names := map[string]int{}
	for _, x := range b.Names {
		names[x.Name] = x.File
	}
	return &cleft{names: names}
}

func entry(name string, file int) impl.Name {
	return impl.Name{Name: name, File: file}
}

// dirIn reads Depth, a colon, the slots, and behind a bar each the Depth of a bucket and its names with their Files.
func dirIn(text string) impl.Dir {
	parts := strings.Split(text, "|")
	depth, slots, _ := strings.Cut(parts[0], ":")
	d := impl.Dir{Depth: numberIn(depth)}
	for _, word := range strings.Fields(slots) {
		d.Slots = append(d.Slots, numberIn(word))
	}
	for _, part := range parts[1:] {
		words := strings.Fields(part)
		b := impl.Bucket{Depth: numberIn(words[0])}
		for _, word := range words[1:] {
			name, file, _ := strings.Cut(word, "=")
			b.Names = append(b.Names, entry(name, numberIn(file)))
		}
		d.Buckets = append(d.Buckets, b)
	}
	return d
}

func numberIn(word string) int {
	n, err := strconv.Atoi(strings.TrimSpace(word))
	if err != nil {
		panic(err)
	}
	return n
}

// shortNames are all names of one to three bytes, those of fewer bytes ahead.
var shortNames = sync.OnceValue(func() []string {
	all, from := []string{""}, 0
	for range 3 {
		end := len(all)
		for _, s := range all[from:end] {
			for _, b := range "abcdefghijklmnopqrstuvwxyz0123456789.-" {
				all = append(all, s+string(b))
			}
		}
		from = end
	}
	return all[1:]
})

func firstNames(many int) []string {
	return slices.Clone(shortNames()[:many])
}

// namesAt are so many names whose hash has these lowest bits.
func namesAt(low int, depth int, many int) []string {
	var l []string
	for _, s := range shortNames() {
		if len(l) == many {
			break
		}
		if lowOf(hashByTrial(s), depth) == low {
			l = append(l, s)
		}
	}
	return l
}

func sameBucket(a impl.Bucket, b impl.Bucket) bool {
	return a.Depth == b.Depth && slices.Equal(a.Names, b.Names)
}

func sameDir(a impl.Dir, b impl.Dir) bool {
	return a.Depth == b.Depth && slices.Equal(a.Slots, b.Slots) && slices.EqualFunc(a.Buckets, b.Buckets, sameBucket)
}

// wantDir: the directory is the one wanted, good, and each of its names lies where BucketOf tells and nowhere else.
func wantDir(t *testing.T, what string, got impl.Dir, ok bool, want impl.Dir) {
	t.Helper()
	if !ok || !sameDir(got, want) {
		t.Fatalf("%s: got %v %v, want %v", what, got, ok, want)
	}
	if !impl.GoodDir(got) {
		t.Fatalf("%s: %v is not good", what, got)
	}
	var all []impl.Name
	for number, b := range got.Buckets {
		for _, x := range b.Names {
			all = append(all, x)
			if told, ok := impl.BucketOf(got, x.Name); told != number || !ok {
				t.Fatalf("%s: %q lies in bucket %d, BucketOf tells %d %v", what, x.Name, number, told, ok)
			}
			if file, ok := impl.LookName(got, x.Name); file != x.File || !ok {
				t.Fatalf("%s: LookName of %v: got %d %v", what, x, file, ok)
			}
		}
	}
	slices.SortFunc(all, func(a impl.Name, b impl.Name) int { return strings.Compare(a.Name, b.Name) })
	names, ok := impl.NamesOf(got)
	wantNames(t, what+": NamesOf", names, ok, all)
}

func wantNoDir(t *testing.T, what string, got impl.Dir, ok bool) {
	t.Helper()
	if ok || !sameDir(got, impl.Dir{}) {
		t.Fatalf("%s: got %v %v, want the zero answer", what, got, ok)
	}
}

func wantNames(t *testing.T, what string, got []impl.Name, ok bool, want []impl.Name) {
	t.Helper()
	if !ok || !slices.Equal(got, want) {
		t.Fatalf("%s: got %v %v, want %v", what, got, ok, want)
	}
}

// wantJust: of all names asked for those that are held are there, with their File, and in one bucket alone.
func wantJust(t *testing.T, d impl.Dir, held map[string]int, asked []string) {
	t.Helper()
	names, ok := impl.NamesOf(d)
	wantNames(t, "NamesOf", names, ok, entriesOf(held))
	for _, name := range asked {
		file, ok := impl.LookName(d, name)
		want, is := held[name]
		if file != want || ok != is {
			t.Fatalf("LookName of %q: got %d %v, want %d %v", name, file, ok, want, is)
		}
		told, ok := impl.BucketOf(d, name)
		if !ok || told != d.Slots[lowOf(hashByTrial(name), d.Depth)] {
			t.Fatalf("BucketOf of %q: got %d %v", name, told, ok)
		}
		for number, b := range d.Buckets {
			in := slices.Contains(b.Names, entry(name, want))
			if in != (is && number == told) {
				t.Fatalf("%q: in bucket %d: %v, held: %v, BucketOf tells %d", name, number, in, is, told)
			}
		}
	}
}

// checkSteps: names are put, put again and dropped as the steps say. A plain map tells what is held, a tree of cuts how it lies.
func checkSteps(t *testing.T, s *steps, pool []string, many int) {
	t.Helper()
	d, c, held := impl.NewDir(), newCleft(), map[string]int{}
	var played []impl.Name
	var told []bool
	for range many {
		x := entry(pool[s.below(len(pool))], s.below(1001))
		if s.below(4) == 0 {
			x.File = -1
		}
		next, ok := playedOn(d, x)
		want := c.play(x)
		played, told = append(played, x), append(told, want)
		if !want {
			wantNoDir(t, "refused", next, ok)
			continue
		}
		wantDir(t, "a step", next, ok, c.laid())
		d = next
		if x.File < 0 {
			delete(held, x.Name)
		} else {
			held[x.Name] = x.File
		}
		wantJust(t, d, held, []string{x.Name, pool[s.below(len(pool))]})
	}
	wantJust(t, d, held, pool)
	all, did, ok := impl.PlayDir(played)
	wantDir(t, "PlayDir", all, ok, d)
	if !slices.Equal(did, told) {
		t.Fatalf("PlayDir told %v, want %v", did, told)
	}
}

func playedOn(d impl.Dir, x impl.Name) (impl.Dir, bool) {
	if x.File == -1 {
		return impl.DropName(d, x.Name)
	}
	return impl.PutName(d, x)
}

func TestADirHasWhatWasPutAndNotDropped(t *testing.T) {
	s := steps(8)
	for _, size := range []int{3, 8, 20, 60, 150, 400} {
		for range 6 {
			var pool []string
			for range size {
				pool = append(pool, someName(&s))
			}
			checkSteps(t, &s, pool, 200)
		}
	}
}

// someName is of any length a name may have.
func someName(s *steps) string {
	const letters = "abcdefghijklmnopqrstuvwxyz0123456789.-"
	name := make([]byte, 1+s.below(12))
	for i := range name {
		name[i] = letters[s.below(len(letters))]
	}
	return string(name)
}

// Names that are alike in many bits fall to one side of a cut, so that one is not enough; those that are alike in eight are refused at last.
func TestADirOfNamesThatAreAlikeInManyBits(t *testing.T) {
	s := steps(88)
	for depth := 0; depth <= 9; depth++ {
		low := s.below(1 << depth)
		for _, many := range []int{5, 9, 30} {
			pool := namesAt(low, depth, many)
			checkSteps(t, &s, pool, 60)
			checkSteps(t, &s, append(pool, namesAt(lowOf(low+1, depth), depth, many)...), 100)
		}
	}
}

// Each name is dropped once, in another order than it was put in: the buckets stay as they were cut.
func TestAllNamesComeAndGo(t *testing.T) {
	s := steps(808)
	for _, many := range []int{1, 4, 5, 50, 300} {
		d, c, ok := impl.NewDir(), newCleft(), false
		for _, i := range someOrder(&s, many) {
			x := entry(shortNames()[i], i)
			c.put(x)
			d, ok = impl.PutName(d, x)
			wantDir(t, "PutName", d, ok, c.laid())
		}
		full := d
		for _, i := range someOrder(&s, many) {
			c.drop(shortNames()[i])
			d, ok = impl.DropName(d, shortNames()[i])
			wantDir(t, "DropName", d, ok, c.laid())
		}
		wantJust(t, d, nil, firstNames(many))
		if d.Depth != full.Depth || !slices.Equal(d.Slots, full.Slots) || len(d.Buckets) != len(full.Buckets) {
			t.Fatalf("%v is left of %v", d, full)
		}
	}
}

// A put and a drop from each directory of a few shapes, at each place of a slot.
func TestStepsFromDirsOfManyShapes(t *testing.T) {
	for _, text := range shapesOfDirs() {
		d := dirIn(text)
		held := map[string]int{}
		for _, x := range slices.Concat(namesOfBuckets(d)...) {
			held[x.Name] = x.File
		}
		for _, name := range append(firstNames(200), namesAt(73, 8, 6)...) {
			checkOneName(t, d, held, name)
		}
		wantDir(t, "asked", d, true, dirIn(text))
	}
}

func shapesOfDirs() []string {
	return []string{
		"0: 0 | 0",
		"0: 0 | 0 a=1 b=2 c=3 d=4",
		"0: 0 | 0 at=1 it=2 np=3 vp=4",
		"1: 0 0 | 0 a=1 b=2 c=3 d=4",
		"1: 0 1 | 1 b=2 d=3 f=4 g=5 | 1 a=1",
		"2: 0 1 0 2 | 1 b=1 d=2 f=3 i=4 | 2 c=5 | 2 a=6 e=7 h=8 l=9",
		"2: 0 1 2 1 | 2 d=1 | 1 a=2 c=3 e=4 h=5 | 2",
		"2: 0 0 0 0 | 0 b=1 f=2 g=3 k=4",
		"3: 0 1 2 1 0 1 3 1 | 2 d=9 | 1 a=1 c=2 e=3 h=4 | 3 b=1 g=3 o=5 w=6 | 3 f=2 k=4",
		"3: 0 0 0 0 0 0 0 0 | 0 at=1 it=2 np=3 vp=4",
	}
}

func namesOfBuckets(d impl.Dir) [][]impl.Name {
	var l [][]impl.Name
	for _, b := range d.Buckets {
		l = append(l, b.Names)
	}
	return l
}

func checkOneName(t *testing.T, d impl.Dir, held map[string]int, name string) {
	t.Helper()
	c := cleftOf(d)
	put, ok := impl.PutName(d, entry(name, 77))
	if c.put(entry(name, 77)) {
		wantDir(t, "PutName of "+name, put, ok, c.laid())
	} else {
		wantNoDir(t, "PutName of "+name, put, ok)
	}
	c = cleftOf(d)
	gone, ok := impl.DropName(d, name)
	if c.drop(name) {
		wantDir(t, "DropName of "+name, gone, ok, c.laid())
	} else {
		wantNoDir(t, "DropName of "+name, gone, ok)
	}
	wantJust(t, d, held, []string{name})
}
