package tests

import (
	"math"
	"slices"
	"strings"
	"testing"

	"loop.example/g00261/impl"
)

func isNameByTrial(s string) bool {
	for _, b := range []byte(s) {
		isLetter, isDigit := b >= 'a' && b <= 'z', b >= '0' && b <= '9'
		if !isLetter && !isDigit && b != '.' && b != '-' {
			return false
		}
	}
	return s != "" && len(s) <= 12
}

func isEntryByTrial(x impl.Name) bool {
	return isNameByTrial(x.Name) && x.File >= 0 && x.File <= 1000
}

// goodDirByTrial goes by the words of the chapter one by one.
func goodDirByTrial(d impl.Dir) bool {
	if d.Depth < 0 || d.Depth > 8 || len(d.Slots) != 1<<d.Depth {
		return false
	}
	for number, b := range d.Buckets {
		if b.Depth < 0 || b.Depth > d.Depth || len(b.Names) > 4 || !slices.Contains(d.Slots, number) {
			return false
		}
	}
	var met []int
	for i, number := range d.Slots {
		if number < 0 || number >= len(d.Buckets) {
			return false
		}
		if !slices.Contains(met, number) {
			met = append(met, number)
		}
		depth := d.Buckets[number].Depth
		for k, other := range d.Slots {
			if (number == other) != (lowOf(i, depth) == lowOf(k, depth)) {
				return false
			}
		}
	}
	return slices.IsSorted(met) && goodNamesByTrial(d)
}

func goodNamesByTrial(d impl.Dir) bool {
	for number, b := range d.Buckets {
		for i, x := range b.Names {
			if !isEntryByTrial(x) || i > 0 && b.Names[i-1].Name >= x.Name {
				return false
			}
			if d.Slots[lowOf(hashByTrial(x.Name), d.Depth)] != number {
				return false
			}
		}
	}
	return true
}

func copyDir(d impl.Dir) impl.Dir {
	out := impl.Dir{Depth: d.Depth, Slots: slices.Clone(d.Slots), Buckets: slices.Clone(d.Buckets)}
	for i, b := range out.Buckets {
		out.Buckets[i].Names = slices.Clone(b.Names)
	}
	return out
}

// wholeDir has that Depth, and for each slot a bucket of its own with so many names.
func wholeDir(depth int, names int) impl.Dir {
	d := impl.Dir{Depth: depth}
	for slot := range 1 << depth {
		b := impl.Bucket{Depth: depth}
		for file, name := range slices.Sorted(slices.Values(namesAt(slot, depth, names))) {
			b.Names = append(b.Names, entry(name, file))
		}
		d.Slots = append(d.Slots, slot)
		d.Buckets = append(d.Buckets, b)
	}
	return d
}

// flatDir has one bucket, which all slots mean.
func flatDir(depth int) impl.Dir {
	return impl.Dir{Depth: depth, Slots: make([]int, 1<<depth), Buckets: []impl.Bucket{{}}}
}

// notNames are each off in one way.
func notNames() []string {
	l := []string{
		"", "abcdefghijklm", "1234567890123", strings.Repeat("a", 100000), "A", "aB", " ", " a", "a ", "a b", "a_b", "a/b", "/", "*",
		"a\x00", "\x00", "a\n", "é", "ab\xc3", "\xff", "`", "{", ",", ":", "@", "[", "abcdefghijkL", "ABCDEFGHIJKL",
	}
	for b := range 256 {
		if one := string([]byte{byte(b)}); !isNameByTrial(one) {
			l = append(l, one, "a"+one, one+"a", "abcdefghijk"+one)
		}
	}
	return l
}

// badDirs are not as said, each in one way.
func badDirs() map[string]impl.Dir {
	l := map[string]impl.Dir{
		"nothing": {}, "no slots": dirIn("0: | 0"), "no slots, no buckets": {Depth: 1}, "no buckets": {Slots: []int{0}},
		"a slot -1":               dirIn("0: -1 | 0"),
		"a slot too great":        dirIn("0: 1 | 0"),
		"the second too great":    dirIn("1: 0 1 | 0"),
		"a slot of four -1":       dirIn("2: 0 1 0 -1 | 1 | 1"),
		"a slot least":            {Slots: []int{math.MinInt}, Buckets: []impl.Bucket{{}}},
		"a slot most":             {Slots: []int{math.MaxInt}, Buckets: []impl.Bucket{{}}},
		"Depth -1":                {Depth: -1, Slots: []int{0}, Buckets: []impl.Bucket{{}}},
		"Depth -1, no slots":      {Depth: -1},
		"Depth -1, twice":         dirIn("-1: 0 | -1"),
		"Depth least":             {Depth: math.MinInt, Slots: []int{0}, Buckets: []impl.Bucket{{}}},
		"Depth most":              {Depth: math.MaxInt, Slots: []int{0}, Buckets: []impl.Bucket{{}}},
		"Depth 63":                {Depth: 63, Slots: []int{0}, Buckets: []impl.Bucket{{}}},
		"Depth 64":                {Depth: 64, Slots: []int{0}, Buckets: []impl.Bucket{{}}},
		"Depth 64, no slots":      {Depth: 64},
		"Depth 9":                 wholeDir(9, 0),
		"Depth 9, one bucket":     flatDir(9),
		"too few slots":           dirIn("1: 0 | 0"),
		"three slots":             dirIn("2: 0 1 0 | 1 | 1"),
		"too many slots":          dirIn("0: 0 0 | 0"),
		"five slots":              dirIn("2: 0 1 0 1 0 | 1 | 1"),
		"a bucket no slot means":  dirIn("0: 0 | 0 | 0"),
		"of three one is idle":    dirIn("1: 0 1 | 1 | 1 | 1"),
		"the first is idle":       dirIn("0: 1 | 0 | 0"),
		"an idle one between":     dirIn("1: 0 2 | 1 | 1 | 1"),
		"one bucket, not alike":   dirIn("1: 0 0 | 1"),
		"one bucket, by two bits": dirIn("2: 0 1 1 0 | 1 | 1"),
		"one bucket, half":        dirIn("2: 0 1 0 1 | 1 | 2"),
		"alike, two buckets":      dirIn("1: 0 1 | 0 | 0"),
		"alike, and one deeper":   dirIn("1: 0 1 | 0 | 1"),
		"one deeper, and alike":   dirIn("1: 0 1 | 1 | 0"),
		"alike by one bit":        dirIn("2: 0 1 2 1 | 1 | 1 | 1"),
		"alike, mixed":            dirIn("2: 0 1 2 1 | 1 | 1 | 2"),
		"the highest bits":        dirIn("2: 0 0 1 1 | 1 | 1"),
		"buckets fall":            dirIn("1: 1 0 | 1 | 1"),
		"the last two fall":       dirIn("2: 0 2 1 2 | 2 | 2 | 1"),
		"as they were cut":        dirIn("2: 0 1 3 2 | 2 | 2 | 2 | 2"),
		"a bucket's Depth -1":     dirIn("0: 0 | -1"),
		"a bucket's Depth -1 too": dirIn("1: 0 1 | 1 | -1"),
		"a bucket too deep":       dirIn("0: 0 | 1"),
		"one of two too deep":     dirIn("1: 0 1 | 1 | 2"),
		"a bucket's Depth least":  {Slots: []int{0}, Buckets: []impl.Bucket{{Depth: math.MinInt}}},
		"a bucket's Depth most":   {Slots: []int{0}, Buckets: []impl.Bucket{{Depth: math.MaxInt}}},
		"a bucket's Depth 64":     {Slots: []int{0}, Buckets: []impl.Bucket{{Depth: 64}}},
		"one name too many":       dirIn("0: 0 | 0 a=1 b=2 c=3 d=4 e=5"),
		"one too many behind":     dirIn("1: 0 1 | 1 | 1 a=1 c=2 e=3 h=4 j=5"),
		"names fall":              dirIn("0: 0 | 0 b=1 a=2"),
		"names alike":             dirIn("0: 0 | 0 a=1 a=1"),
		"alike but for the File":  dirIn("0: 0 | 0 a=1 a=2"),
		"the last two names fall": dirIn("0: 0 | 0 a=1 b=2 d=3 c=4"),
		"the last two alike":      dirIn("0: 0 | 0 a=1 b=2 c=3 c=4"),
		"a longer name ahead":     dirIn("0: 0 | 0 aa=1 a=2"),
		"names fall behind":       dirIn("1: 0 1 | 1 | 1 c=1 a=2"),
		"a File -1":               dirIn("0: 0 | 0 a=-1"),
		"a File 1001":             dirIn("0: 0 | 0 a=1001"),
		"the last File":           dirIn("0: 0 | 0 a=1 b=2 c=3 d=1001"),
		"a File least":            dirIn("0: 0 | 0 a=-9223372036854775808"),
		"a File most":             dirIn("0: 0 | 0 a=9223372036854775807"),
		"another bucket's":        dirIn("1: 0 1 | 1 a=1 | 1"),
		"another bucket's too":    dirIn("1: 0 1 | 1 | 1 b=1"),
		"in both":                 dirIn("1: 0 1 | 1 a=1 | 1 a=1"),
		"another by two bits":     dirIn("2: 0 1 2 3 | 2 b=1 | 2 | 2 | 2"),
		"the last is another's":   dirIn("1: 0 1 | 1 | 1 a=1 c=2 d=3"),
	}
	for _, name := range notNames() {
		l["the name "+name] = impl.Dir{Slots: []int{0}, Buckets: []impl.Bucket{{Names: []impl.Name{entry(name, 1)}}}}
	}
	return l
}

func wantDirRefused(t *testing.T, what string, d impl.Dir) {
	t.Helper()
	if impl.GoodDir(d) {
		t.Errorf("%s: %v is good", what, d)
	}
	names, ok := impl.NamesOf(d)
	wantNoNames(t, what, names, ok)
	asked := []string{"a", "b", "c", "zz", "abcdefghijkl", "", "A"}
	for _, x := range slices.Concat(namesOfBuckets(d)...) {
		asked = append(asked, x.Name)
	}
	for _, name := range asked[:min(len(asked), 40)] {
		wantNameRefused(t, what, d, name)
		put, ok := impl.PutName(d, entry(name, 5))
		wantNoDir(t, what, put, ok)
		number, ok := impl.BucketOf(d, name)
		wantNoNumber(t, what, number, ok)
	}
}

// wantNameRefused: a name that is not there.
func wantNameRefused(t *testing.T, what string, d impl.Dir, name string) {
	t.Helper()
	file, ok := impl.LookName(d, name)
	wantNoNumber(t, what, file, ok)
	gone, ok := impl.DropName(d, name)
	wantNoDir(t, what, gone, ok)
}

func wantNoNames(t *testing.T, what string, names []impl.Name, ok bool) {
	t.Helper()
	if ok || len(names) != 0 {
		t.Errorf("%s: got %v %v, want the zero answer", what, names, ok)
	}
}

func TestBadDirsAreRefused(t *testing.T) {
	for what, d := range badDirs() {
		held := copyDir(d)
		wantDirRefused(t, what, d)
		if !sameDir(d, held) {
			t.Errorf("%s: %v was %v", what, d, held)
		}
		if goodDirByTrial(d) {
			t.Errorf("%s: good by trial", what)
		}
	}
}

// A fault here is told without the directory, which would fill many pages.
func TestLongDirsAreRefused(t *testing.T) {
	many := make([]impl.Name, 1000000)
	for what, d := range map[string]impl.Dir{
		"many slots":       {Slots: make([]int, 1000000), Buckets: []impl.Bucket{{}}},
		"many slots, deep": {Depth: 20, Slots: make([]int, 1<<20), Buckets: []impl.Bucket{{}}},
		"many buckets":     {Slots: []int{0}, Buckets: make([]impl.Bucket, 1000000)},
		"many names":       {Slots: []int{0}, Buckets: []impl.Bucket{{Names: many}}},
	} {
		if impl.GoodDir(d) {
			t.Fatalf("%s: good", what)
		}
		wantDirRefused(t, what, d)
	}
	got, did, ok := impl.PlayDir(many)
	wantNoDir(t, "PlayDir of a long list", got, ok)
	if len(did) != 0 {
		t.Error("PlayDir of a long list tells something")
	}
}

// changedDirs are a directory with each of its numbers changed, left out or twice, its buckets changed in their places, and so its names.
func changedDirs(d impl.Dir) []impl.Dir {
	var l []impl.Dir
	change := func(do func(c *impl.Dir)) {
		c := copyDir(d)
		do(&c)
		l = append(l, c)
	}
	numbers := []int{-1, 0, 1, 2, 3, 4, 8, 9, 64, math.MaxInt, math.MinInt}
	for _, n := range numbers {
		change(func(c *impl.Dir) { c.Depth = n })
		change(func(c *impl.Dir) { c.Slots = append(c.Slots, n) })
		for i := range d.Slots {
			change(func(c *impl.Dir) { c.Slots[i] = n })
			change(func(c *impl.Dir) { c.Slots = slices.Insert(c.Slots, i, n) })
		}
		for i := range d.Buckets {
			change(func(c *impl.Dir) { c.Buckets[i].Depth = n })
		}
	}
	change(func(c *impl.Dir) { c.Depth, c.Slots = c.Depth+1, append(c.Slots, c.Slots...) })
	change(func(c *impl.Dir) { c.Depth, c.Slots = c.Depth-1, c.Slots[:len(c.Slots)/2] })
	change(func(c *impl.Dir) { c.Buckets = append(c.Buckets, impl.Bucket{Depth: c.Depth}) })
	for i := range d.Slots {
		change(func(c *impl.Dir) { c.Slots = slices.Delete(c.Slots, i, i+1) })
		for k := range i {
			change(func(c *impl.Dir) { c.Slots[i], c.Slots[k] = c.Slots[k], c.Slots[i] })
		}
	}
	for i := range d.Buckets {
		change(func(c *impl.Dir) { c.Buckets = slices.Delete(c.Buckets, i, i+1) })
		change(func(c *impl.Dir) { c.Buckets = slices.Insert(c.Buckets, i, c.Buckets[i]) })
		for k := range i {
			change(func(c *impl.Dir) { c.Buckets[i], c.Buckets[k] = c.Buckets[k], c.Buckets[i] })
			change(func(c *impl.Dir) { c.Buckets[i].Names, c.Buckets[k].Names = c.Buckets[k].Names, c.Buckets[i].Names })
		}
		l = append(l, changedNames(d, i)...)
	}
	return l
}

// changedNames does so with the names of one bucket.
func changedNames(d impl.Dir, number int) []impl.Dir {
	var l []impl.Dir
	change := func(do func(names []impl.Name) []impl.Name) {
		c := copyDir(d)
		c.Buckets[number].Names = do(c.Buckets[number].Names)
		l = append(l, c)
	}
	some := []impl.Name{
		entry("a", 0), entry("b", 1000), entry("c", 1001), entry("d", -1), entry("g", 1), entry("h", 1), entry("zz", 2),
		entry("", 1), entry("A", 1), entry("abcdefghijkl", 1), entry("abcdefghijklm", 1), entry(".", 0), entry("-", 0),
	}
	for at := range len(d.Buckets[number].Names) + 1 {
		for _, x := range some {
			change(func(names []impl.Name) []impl.Name { return slices.Insert(names, at, x) })
		}
	}
	for at := range d.Buckets[number].Names {
		for _, x := range some {
			change(func(names []impl.Name) []impl.Name { return slices.Replace(names, at, at+1, x) })
		}
		change(func(names []impl.Name) []impl.Name { return slices.Delete(names, at, at+1) })
		change(func(names []impl.Name) []impl.Name { return slices.Insert(names, at, names[at]) })
		for k := range at {
			change(func(names []impl.Name) []impl.Name {
				names[at], names[k] = names[k], names[at]
				return names
			})
		}
	}
	return l
}

func checkGoodDir(t *testing.T, d impl.Dir) {
	t.Helper()
	good := goodDirByTrial(d)
	if got := impl.GoodDir(d); got != good {
		t.Fatalf("GoodDir of %v: got %v", d, got)
	}
	if names, ok := impl.NamesOf(d); ok != good || !good && len(names) != 0 {
		t.Fatalf("NamesOf %v: got %v %v", d, names, ok)
	}
}

func TestGoodDirsAreWhatTheWordsSay(t *testing.T) {
	for _, text := range shapesOfDirs() {
		d := dirIn(text)
		checkGoodDir(t, d)
		for _, one := range changedDirs(d) {
			checkGoodDir(t, one)
		}
	}
	// Two changes, of which the second may undo the first or hide it.
	for _, text := range []string{"0: 0 | 0 a=1", "1: 0 1 | 1 b=2 | 1 a=1"} {
		for _, one := range changedDirs(dirIn(text)) {
			if len(one.Slots) == 0 {
				continue
			}
			for _, two := range changedDirs(one) {
				checkGoodDir(t, two)
			}
		}
	}
}

// All rows of slots and Depths that a small directory can have: those alone are good that the words let be.
func TestAllSmallDirs(t *testing.T) {
	for depth := range 3 {
		for buckets := 1; buckets <= 1<<depth; buckets++ {
			for _, slots := range rowsOf(1<<depth, 0, 1, 2, 3) {
				for _, depths := range rowsOf(buckets, 0, 1, 2) {
					d := impl.Dir{Depth: depth, Slots: slots}
					for _, its := range depths {
						d.Buckets = append(d.Buckets, impl.Bucket{Depth: its})
					}
					checkGoodDir(t, d)
				}
			}
		}
	}
}

func TestWhatIsNoNameIsRefused(t *testing.T) {
	for _, text := range shapesOfDirs() {
		d := dirIn(text)
		for _, name := range notNames() {
			wantNameRefused(t, name, d, name)
			number, ok := impl.BucketOf(d, name)
			wantNoNumber(t, "BucketOf", number, ok)
			put, ok := impl.PutName(d, entry(name, 5))
			wantNoDir(t, "PutName", put, ok)
			if got := impl.NameHash(name); got != hashByTrial(name) {
				t.Errorf("NameHash of %q: got %d", name, got)
			}
		}
		wantDir(t, "all refused", d, true, dirIn(text))
	}
}

func TestOddFiles(t *testing.T) {
	d := dirIn("1: 0 1 | 1 b=2 | 1 a=1 c=3")
	for _, n := range append(oddNumbers(), 999, 1000, 1001, -2) {
		for _, name := range []string{"a", "e"} {
			put, ok := impl.PutName(d, entry(name, n))
			if n < 0 || n > 1000 {
				wantNoDir(t, "PutName", put, ok)
				continue
			}
			c := cleftOf(d)
			c.put(entry(name, n))
			wantDir(t, "PutName", put, ok, c.laid())
		}
		checkGoodDir(t, impl.Dir{Slots: []int{0}, Buckets: []impl.Bucket{{Names: []impl.Name{entry("a", n)}}}})
		checkGoodDir(t, impl.Dir{Depth: n, Slots: []int{0}, Buckets: []impl.Bucket{{}}})
		checkGoodDir(t, impl.Dir{Slots: []int{n}, Buckets: []impl.Bucket{{}}})
		checkGoodDir(t, impl.Dir{Slots: []int{0}, Buckets: []impl.Bucket{{Depth: n}}})
		checkGoodDir(t, impl.Dir{Depth: 1, Slots: []int{0, n}, Buckets: []impl.Bucket{{Depth: 1}, {Depth: 1}}})
	}
}

// roomyDir has room behind its lists, with what is none of it.
func roomyDir(text string) impl.Dir {
	d := dirIn(text)
	for i, b := range d.Buckets {
		d.Buckets[i].Names = withRoom(b.Names, entry("behind", 7001), entry("zzz", 7002))
	}
	d.Buckets = withRoom(d.Buckets, impl.Bucket{Depth: 7001}, impl.Bucket{Depth: 7002})
	d.Slots = withRoom(d.Slots, 7001, 7002, 7003)
	return d
}

func wantRoomyDir(t *testing.T, what string, d impl.Dir, text string) {
	t.Helper()
	fresh := roomyDir(text)
	if !sameDir(d, fresh) || !slices.EqualFunc(wholeOf(d.Buckets), wholeOf(fresh.Buckets), sameBucket) {
		t.Errorf("%s: written into: %v", what, d)
	}
	wantAsFresh(t, what, [][]int{d.Slots}, [][]int{fresh.Slots})
	wantAsFresh(t, what, namesOfBuckets(d), namesOfBuckets(fresh))
}

// wantDirApart: the slots and buckets of an answer are its own, and so are the names of each bucket.
func wantDirApart(t *testing.T, what string, d impl.Dir, text string, answer impl.Dir) {
	t.Helper()
	wantRoomyDir(t, what, d, text)
	given, held, fresh := wholeOf(d.Buckets), copyDir(answer), roomyDir(text)
	for _, b := range wholeOf(answer.Buckets) {
		if b.Depth > 7000 {
			t.Errorf("%s: a bucket from behind the length", what)
		}
	}
	spoil(d.Buckets, impl.Bucket{Depth: -9})
	if !sameDir(answer, held) {
		t.Errorf("%s: the buckets are the argument's", what)
	}
	copy(d.Buckets[:cap(d.Buckets)], given)
	wantListsApart(t, what, [][]int{d.Slots}, [][]int{fresh.Slots}, [][]int{answer.Slots}, -9)
	wantListsApart(t, what, namesOfBuckets(d), namesOfBuckets(fresh), namesOfBuckets(answer), entry("spoilt", -9))
	spoil(answer.Buckets, impl.Bucket{Depth: -9})
	wantRoomyDir(t, what+", the answer spoilt", d, text)
}

func TestDirAnswersAreNewMemory(t *testing.T) {
	for _, text := range shapesOfDirs() {
		for _, name := range append(firstNames(38), namesAt(73, 7, 6)...) {
			d := roomyDir(text)
			if got, ok := impl.PutName(d, entry(name, 77)); ok {
				wantDirApart(t, "PutName", d, text, got)
			}
			d = roomyDir(text)
			if got, ok := impl.DropName(d, name); ok {
				wantDirApart(t, "DropName", d, text, got)
			}
			wantRoomyDir(t, "put, dropped or refused", d, text)
		}
	}
}

func TestQuestionsWriteIntoNoDir(t *testing.T) {
	for _, text := range shapesOfDirs() {
		d := roomyDir(text)
		for _, name := range append(firstNames(50), "behind", "zzz", "", "A") {
			impl.LookName(d, name)
			impl.BucketOf(d, name)
		}
		impl.GoodDir(d)
		wantRoomyDir(t, "asked", d, text)
		for range 2 {
			one, ok := impl.NamesOf(d)
			other, is := impl.NamesOf(d)
			wantNames(t, "NamesOf", one, ok, other)
			held := slices.Clone(other)
			spoil(one, entry("spoilt", -9))
			wantNames(t, "NamesOf, the other spoilt", other, is, held)
			spoil(other, entry("spoilt", -9))
			wantRoomyDir(t, "the answers spoilt", d, text)
		}
	}
}

func TestNewDirsShareNothing(t *testing.T) {
	a := impl.NewDir()
	spoil(a.Slots, -9)
	spoil(a.Buckets, impl.Bucket{Depth: -9})
	wantDir(t, "NewDir after another was spoilt", impl.NewDir(), true, dirIn("0: 0 | 0"))
}

func TestPlayDirSharesNothing(t *testing.T) {
	for many := range 12 {
		var names []impl.Name
		for i, name := range firstNames(many) {
			names = append(names, entry(name, i))
		}
		l := withRoom(names, entry("behind", 7001), entry("zzz", 7002))
		fresh := withRoom(names, entry("behind", 7001), entry("zzz", 7002))
		got, did, ok := impl.PlayDir(l)
		c := newCleft()
		for _, x := range names {
			c.put(x)
		}
		wantDir(t, "PlayDir", got, ok, c.laid())
		wantListsApart(t, "PlayDir", [][]impl.Name{l}, [][]impl.Name{fresh}, namesOfBuckets(got), entry("spoilt", -9))
		if len(did) != many || slices.Contains(did, false) {
			t.Errorf("PlayDir of %d names told %v", many, did)
		}
	}
}

// What lies behind a length is not among the slots, buckets or names: there it would mend what is bad.
func TestWhatIsBehindTheLengthIsNoneOfADir(t *testing.T) {
	whole := dirIn("1: 0 1 | 1 b=2 d=3 | 1 a=1 c=3")
	for _, short := range []func(c *impl.Dir){
		func(c *impl.Dir) { c.Slots = c.Slots[:1] },
		func(c *impl.Dir) { c.Buckets = c.Buckets[:1] },
	} {
		c := copyDir(whole)
		short(&c)
		wantDirRefused(t, "cut short", c)
	}
	c := copyDir(whole)
	c.Buckets[0].Names = c.Buckets[0].Names[:1]
	wantDir(t, "names cut short", c, true, dirIn("1: 0 1 | 1 b=2 | 1 a=1 c=3"))
	wantNameRefused(t, "a name behind the length", c, "d")
	full := impl.Dir{Slots: []int{0}, Buckets: []impl.Bucket{{Names: dirIn("0: 0 | 0 a=1 b=2 c=3 d=4 e=5").Buckets[0].Names[:4]}}}
	put, ok := impl.PutName(full, entry("f", 6))
	wantDir(t, "PutName into a bucket cut short", put, ok, dirIn("1: 0 1 | 1 b=2 d=4 f=6 | 1 a=1 c=3"))
}

// Two steps from one directory do not meet in the memory behind its lists.
func TestTwoStepsFromOneDir(t *testing.T) {
	text := "1: 0 1 | 1 b=2 | 1 a=1 c=3"
	d := roomyDir(text)
	one, okOne := impl.PutName(d, entry("e", 5))
	two, okTwo := impl.PutName(d, entry("h", 6))
	three, okThree := impl.DropName(d, "a")
	wantDir(t, "the one", one, okOne, dirIn("1: 0 1 | 1 b=2 | 1 a=1 c=3 e=5"))
	wantDir(t, "the other", two, okTwo, dirIn("1: 0 1 | 1 b=2 | 1 a=1 c=3 h=6"))
	wantDir(t, "the third", three, okThree, dirIn("1: 0 1 | 1 b=2 | 1 c=3"))
	wantRoomyDir(t, "all three", d, text)
}

// One list that stands for many in an argument is no list of the answer's.
func TestBucketsOfADirMayShareTheirLists(t *testing.T) {
	names := dirIn("0: 0 | 0 a=1 c=2 b=3 d=4").Buckets[0].Names
	fresh := slices.Clone(names)
	d := impl.Dir{Depth: 1, Slots: []int{0, 1}, Buckets: []impl.Bucket{{Depth: 1, Names: names[2:]}, {Depth: 1, Names: names[:2]}}}
	put, ok := impl.PutName(d, entry("e", 5))
	wantDir(t, "PutName", put, ok, dirIn("1: 0 1 | 1 b=3 d=4 | 1 a=1 c=2 e=5"))
	wantListsApart(t, "PutName", [][]impl.Name{names}, [][]impl.Name{fresh}, namesOfBuckets(put), entry("spoilt", -9))
	gone, ok := impl.DropName(d, "c")
	wantDir(t, "DropName", gone, ok, dirIn("1: 0 1 | 1 b=3 d=4 | 1 a=1"))
	wantListsApart(t, "DropName", [][]impl.Name{names}, [][]impl.Name{fresh}, namesOfBuckets(gone), entry("spoilt", -9))
}
