package tests

import (
	"slices"
	"strings"
	"testing"

	"loop.example/g00261/impl"
)

func TestConstantsOfDirs(t *testing.T) {
	if impl.MaxDepth != 8 || impl.MaxBucket != 4 {
		t.Error("MaxDepth and MaxBucket are not 8 and 4")
	}
}

func TestNameHash(t *testing.T) {
	for s, want := range map[string]int{
		"": 7, "a": 314 ^ 9, "b": 306, "z": 345, "0": 257, ".": 271, "-": 270, "ab": 10075, "zz": 10443,
		"abcdefghijkl": 49055, "zzzzzzzzzzzz": 23503, "------------": 45821, "............": 50695,
		// No names: other bytes, and one more than a name has.
		"A": 274, " ": 254, "\x00": 223, "\xff": 470, "\xff\xff\xff": 3045, "abcdefghijklm": 35774,
	} {
		if got := impl.NameHash(s); got != want {
			t.Errorf("NameHash of %q: got %d, want %d", s, got, want)
		}
	}
	for _, s := range append(firstNames(5000), "é", strings.Repeat("z", 13), strings.Repeat("\xff", 1000), strings.Repeat("a", 100000)) {
		got := impl.NameHash(s)
		if got != hashByTrial(s) || got < 0 || got > 65535 {
			t.Fatalf("NameHash of %q: got %d, want %d", s, got, hashByTrial(s))
		}
	}
}

func TestNewDirIsOneEmptyBucket(t *testing.T) {
	got := impl.NewDir()
	want := impl.Dir{Depth: 0, Slots: []int{0}, Buckets: []impl.Bucket{{Depth: 0}}}
	wantDir(t, "NewDir", got, true, want)
	names, ok := impl.NamesOf(got)
	wantNames(t, "NamesOf a new one", names, ok, nil)
}

func TestGoodDirs(t *testing.T) {
	l := []impl.Dir{wholeDir(8, 0), wholeDir(8, 4), wholeDir(7, 4), wholeDir(1, 4), flatDir(8), flatDir(1)}
	for _, text := range append(shapesOfDirs(),
		"0: 0 | 0 a=0", "0: 0 | 0 a=1000", "0: 0 | 0 a=5 aa=5 ab=5 b=5", "0: 0 | 0 -=1 .=2 0=3 z=4",
		"0: 0 | 0 abcdefghijkl=1", "0: 0 | 0 a.b-c=1 zzzzzzzzzzzz=2", "0: 0 | 0 ------------=0 ............=0",
		"1: 0 0 | 0 a=1 b=2", "1: 0 1 | 1 | 1", "2: 0 1 0 1 | 1 b=1 | 1 a=2", "2: 0 1 2 1 | 2 | 1 | 2", "2: 0 1 0 2 | 1 | 2 | 2", "2: 0 1 2 3 | 2 | 2 | 2 | 2",
	) {
		l = append(l, dirIn(text))
	}
	for _, d := range l {
		if !impl.GoodDir(d) || !goodDirByTrial(d) {
			t.Errorf("%v is not good", d)
		}
		wantDir(t, "a good one", d, true, copyDir(d))
	}
}

// The lowest bits of the hashes: b 010, d 100, f 110, g 010, i 000, k 110, o 010 and a 011, c 101, e 111, h 011.
func TestPutNameByHand(t *testing.T) {
	for _, c := range []struct {
		what string
		from string
		name impl.Name
		want string
	}{
		{"into an empty directory", "0: 0 | 0", entry("a", 5), "0: 0 | 0 a=5"},
		{"with the least File", "0: 0 | 0", entry("a", 0), "0: 0 | 0 a=0"},
		{"with the greatest File", "0: 0 | 0", entry("a", 1000), "0: 0 | 0 a=1000"},
		{"of twelve bytes", "0: 0 | 0 b=1", entry("abcdefghijkl", 1), "0: 0 | 0 abcdefghijkl=1 b=1"},
		{"ahead of others", "0: 0 | 0 b=2 c=3", entry("a", 1), "0: 0 | 0 a=1 b=2 c=3"},
		{"between others", "0: 0 | 0 a=1 c=3 d=4", entry("b", 2), "0: 0 | 0 a=1 b=2 c=3 d=4"},
		{"behind others", "0: 0 | 0 a=1 b=2", entry("c", 3), "0: 0 | 0 a=1 b=2 c=3"},
		{"a longer one behind a shorter", "0: 0 | 0 a=1 b=2", entry("aa", 3), "0: 0 | 0 a=1 aa=3 b=2"},
		{"one that is there", "0: 0 | 0 a=5 b=6", entry("a", 7), "0: 0 | 0 a=7 b=6"},
		{"one that is there, with its File", "0: 0 | 0 a=5 b=6", entry("b", 6), "0: 0 | 0 a=5 b=6"},
		{"one that is there, in a full bucket", "0: 0 | 0 a=1 b=2 c=3 d=4", entry("c", 9), "0: 0 | 0 a=1 b=2 c=9 d=4"},
		{"into a bucket with room, beside a full one", "1: 0 1 | 1 b=1 d=2 f=3 g=4 | 1 a=5", entry("c", 6), "1: 0 1 | 1 b=1 d=2 f=3 g=4 | 1 a=5 c=6"},
		{"a full one as deep as the directory", "0: 0 | 0 a=1 b=2 c=3 d=4", entry("e", 5), "1: 0 1 | 1 b=2 d=4 | 1 a=1 c=3 e=5"},
		{"a full one as deep, the other half", "0: 0 | 0 a=1 b=2 c=3 d=4", entry("f", 5), "1: 0 1 | 1 b=2 d=4 f=5 | 1 a=1 c=3"},
		{"a full one less deep: not doubled", "1: 0 0 | 0 a=1 b=2 c=3 d=4", entry("e", 5), "1: 0 1 | 1 b=2 d=4 | 1 a=1 c=3 e=5"},
		{"a full one less deep, others move up", "2: 0 1 0 2 | 1 b=1 d=2 f=3 i=4 | 2 c=5 | 2 a=6", entry("g", 7),
			"2: 0 1 2 3 | 2 d=2 i=4 | 2 c=5 | 2 b=1 f=3 g=7 | 2 a=6"},
		{"a full one less deep, the last one", "2: 0 1 2 1 | 2 d=9 | 1 a=1 c=2 e=3 h=4 | 2 b=8", entry("j", 5),
			"2: 0 1 2 3 | 2 d=9 | 2 c=2 j=5 | 2 b=8 | 2 a=1 e=3 h=4"},
		{"a full one as deep, its slots twice", "1: 0 1 | 1 b=1 d=2 f=3 i=4 | 1 a=5", entry("g", 6),
			"2: 0 1 2 1 | 2 d=2 i=4 | 1 a=5 | 2 b=1 f=3 g=6"},
		{"all to one side: doubled three times", "0: 0 | 0 b=1 f=2 g=3 k=4", entry("o", 5),
			"3: 0 1 2 1 0 1 3 1 | 2 | 1 | 3 b=1 g=3 o=5 | 3 f=2 k=4"},
		{"all to one side, the new one to the other", "0: 0 | 0 b=1 f=2 g=3 k=4", entry("a", 5), "1: 0 1 | 1 b=1 f=2 g=3 k=4 | 1 a=5"},
		{"all to one side, cut first, doubled then", "1: 0 0 | 0 b=1 f=2 g=3 k=4", entry("o", 5),
			"3: 0 1 2 1 0 1 3 1 | 2 | 1 | 3 b=1 g=3 o=5 | 3 f=2 k=4"},
		{"all to one side, cut more than once, never doubled", "3: 0 0 0 0 0 0 0 0 | 0 b=1 f=2 g=3 k=4", entry("o", 5),
			"3: 0 1 2 1 0 1 3 1 | 2 | 1 | 3 b=1 g=3 o=5 | 3 f=2 k=4"},
	} {
		got, ok := impl.PutName(dirIn(c.from), c.name)
		wantDir(t, c.what, got, ok, dirIn(c.want))
	}
}

// at, it, np, vp, j and c6 are alike in eight bits, rx with them in seven.
func TestPutNameUpToTheGreatestDepth(t *testing.T) {
	for _, text := range []string{"0: 0 | 0 at=1 it=2 np=3 vp=4", "1: 0 1 | 1 b=9 | 1 at=1 it=2 np=3 vp=4", "3: 0 0 0 0 0 0 0 0 | 0 at=1 it=2 np=3 vp=4"} {
		d := dirIn(text)
		deep, ok := impl.PutName(d, entry("rx", 5))
		c := cleftOf(d)
		c.put(entry("rx", 5))
		wantDir(t, "one unlike in the last bit", deep, ok, c.laid())
		if deep.Depth != 8 || deep.Buckets[deep.Slots[73]].Depth != 8 || len(deep.Buckets[deep.Slots[73]].Names) != 4 || len(deep.Buckets[deep.Slots[73+128]].Names) != 1 {
			t.Errorf("%v is not as deep as can be", deep)
		}
		for _, name := range []string{"j", "c6"} {
			for _, from := range []impl.Dir{d, deep} {
				held := copyDir(from)
				got, ok := impl.PutName(from, entry(name, 6))
				wantNoDir(t, "a fifth one alike", got, ok)
				wantDir(t, "what was refused", from, true, held)
			}
		}
		again, ok := impl.PutName(deep, entry("np", 1000))
		c.put(entry("np", 1000))
		wantDir(t, "one that is there", again, ok, c.laid())
		less, ok := impl.DropName(again, "at")
		c.drop("at")
		wantDir(t, "one goes", less, ok, c.laid())
		more, ok := impl.PutName(less, entry("j", 6))
		c.put(entry("j", 6))
		wantDir(t, "another comes", more, ok, c.laid())
	}
}

func TestAFullDirOfTheGreatestDepth(t *testing.T) {
	d := wholeDir(8, 4)
	for slot := range 256 {
		names := namesAt(slot, 8, 5)
		got, ok := impl.PutName(d, entry(names[4], 1))
		wantNoDir(t, "one more", got, ok)
		file, ok := impl.LookName(d, names[4])
		wantNoNumber(t, "LookName of one more", file, ok)
		number, ok := impl.BucketOf(d, names[4])
		wantNumber(t, "BucketOf one more", number, ok, slot)
	}
	all, ok := impl.NamesOf(d)
	byName := func(a impl.Name, b impl.Name) int { return strings.Compare(a.Name, b.Name) }
	if !ok || len(all) != 1024 || !slices.IsSortedFunc(all, byName) {
		t.Errorf("NamesOf: %d names, %v", len(all), ok)
	}
}

func TestPutNameRefuses(t *testing.T) {
	for _, text := range []string{"0: 0 | 0", "0: 0 | 0 a=1 b=2 c=3 d=4", "1: 0 1 | 1 b=2 | 1 a=1 c=3"} {
		for _, x := range []impl.Name{
			entry("a", -1), entry("a", 1001), entry("e", -1), entry("e", 1001), entry("e", -2),
			entry("", 1), entry("abcdefghijklm", 1), entry("E", 1), entry("a b", 1), entry("a_", 1), entry("a/", 1), entry("é", 1),
		} {
			got, ok := impl.PutName(dirIn(text), x)
			wantNoDir(t, "PutName", got, ok)
		}
	}
}

func TestDropNameByHand(t *testing.T) {
	for _, c := range []struct {
		what string
		from string
		name string
		want string
	}{
		{"the only one", "0: 0 | 0 a=1", "a", "0: 0 | 0"},
		{"the first", "0: 0 | 0 a=1 b=2 c=3", "a", "0: 0 | 0 b=2 c=3"},
		{"between others", "0: 0 | 0 a=1 b=2 c=3", "b", "0: 0 | 0 a=1 c=3"},
		{"the last", "0: 0 | 0 a=1 b=2 c=3", "c", "0: 0 | 0 a=1 b=2"},
		{"of a full bucket", "0: 0 | 0 a=1 b=2 c=3 d=4", "d", "0: 0 | 0 a=1 b=2 c=3"},
		{"its bucket stays, empty", "1: 0 1 | 1 b=2 | 1 a=1 c=3", "b", "1: 0 1 | 1 | 1 a=1 c=3"},
		{"the last of all, both buckets stay", "1: 0 1 | 1 | 1 a=1", "a", "1: 0 1 | 1 | 1"},
		{"of a bucket that many slots mean", "2: 0 1 2 1 | 2 d=1 | 1 a=2 c=3 | 2", "c", "2: 0 1 2 1 | 2 d=1 | 1 a=2 | 2"},
	} {
		got, ok := impl.DropName(dirIn(c.from), c.name)
		wantDir(t, c.what, got, ok, dirIn(c.want))
		file, ok := impl.LookName(got, c.name)
		wantNoNumber(t, c.what+": LookName", file, ok)
		again, ok := impl.DropName(got, c.name)
		wantNoDir(t, c.what+": once more", again, ok)
	}
}

func TestNamesThatAreNotThere(t *testing.T) {
	for _, text := range shapesOfDirs() {
		for _, name := range []string{"x", "y", "aa", "abcdefghijkl", "", "A", "abcdefghijklm", "a ", "=", "."} {
			wantNameRefused(t, text, dirIn(text), name)
		}
	}
}

func TestLookName(t *testing.T) {
	d := dirIn("2: 0 1 0 2 | 1 b=0 d=2 f=3 i=1000 | 2 c=5 | 2 a=6")
	for name, want := range map[string]int{"a": 6, "b": 0, "c": 5, "d": 2, "f": 3, "i": 1000} {
		file, ok := impl.LookName(d, name)
		wantNumber(t, "LookName", file, ok, want)
	}
}

func TestNamesOf(t *testing.T) {
	for text, want := range map[string][]impl.Name{
		"0: 0 | 0":       nil,
		"1: 0 1 | 1 | 1": nil,
		"0: 0 | 0 a=7":   {entry("a", 7)},
		"2: 0 1 0 2 | 1 b=1 d=2 f=3 i=4 | 2 c=5 | 2 a=6":     {entry("a", 6), entry("b", 1), entry("c", 5), entry("d", 2), entry("f", 3), entry("i", 4)},
		"1: 0 1 | 1 -=1 b=2 | 1 .=3 0=4 a=5 zz=6":            {entry("-", 1), entry(".", 3), entry("0", 4), entry("a", 5), entry("b", 2), entry("zz", 6)},
		"2: 0 1 2 1 | 2 | 1 a=2 | 2 b=3":                     {entry("a", 2), entry("b", 3)},
		"3: 0 1 2 1 0 1 3 1 | 2 | 1 | 3 b=1 g=3 o=5 | 3 f=2": {entry("b", 1), entry("f", 2), entry("g", 3), entry("o", 5)},
	} {
		got, ok := impl.NamesOf(dirIn(text))
		wantNames(t, text, got, ok, want)
	}
}

func TestBucketOf(t *testing.T) {
	whole, flat := wholeDir(8, 0), flatDir(8)
	for _, name := range append(firstNames(2000), "abcdefghijkl", "zzzzzzzzzzzz") {
		number, ok := impl.BucketOf(impl.NewDir(), name)
		wantNumber(t, "BucketOf at Depth 0", number, ok, 0)
		number, ok = impl.BucketOf(whole, name)
		wantNumber(t, "BucketOf at MaxDepth", number, ok, hashByTrial(name)%256)
		number, ok = impl.BucketOf(flat, name)
		wantNumber(t, "BucketOf at MaxDepth, one bucket", number, ok, 0)
	}
	d := dirIn("2: 0 1 0 2 | 1 b=1 d=2 f=3 i=4 | 2 c=5 | 2 a=6")
	for name, want := range map[string]int{"a": 2, "b": 0, "c": 1, "d": 0, "f": 0, "i": 0, "e": 2, "j": 1, "q": 0, "k": 0} {
		number, ok := impl.BucketOf(d, name)
		wantNumber(t, "BucketOf "+name, number, ok, want)
	}
}

func wantPlayed(t *testing.T, what string, l []impl.Name, want impl.Dir, told []bool) {
	t.Helper()
	got, did, ok := impl.PlayDir(l)
	wantDir(t, what, got, ok, want)
	if !slices.Equal(did, told) {
		t.Fatalf("%s: told %v, want %v", what, did, told)
	}
}

func TestPlayDirByHand(t *testing.T) {
	wantPlayed(t, "no names", nil, dirIn("0: 0 | 0"), nil)
	wantPlayed(t, "no names, no nil", []impl.Name{}, dirIn("0: 0 | 0"), nil)
	wantPlayed(t, "one", []impl.Name{entry("a", 0)}, dirIn("0: 0 | 0 a=0"), []bool{true})
	wantPlayed(t, "put, again, dropped, again",
		[]impl.Name{entry("a", 1), entry("a", 2), entry("b", 3), entry("a", -1), entry("a", -1)},
		dirIn("0: 0 | 0 b=3"), []bool{true, true, true, true, false})
	wantPlayed(t, "dropped and put again", []impl.Name{entry("a", 1), entry("a", -1), entry("a", 4)}, dirIn("0: 0 | 0 a=4"), []bool{true, true, true})
	wantPlayed(t, "one that is not there", []impl.Name{entry("a", -1)}, dirIn("0: 0 | 0"), []bool{false})
	wantPlayed(t, "names that are not as said",
		[]impl.Name{entry("a", 1), entry("", 1), entry("A", 1), entry("abcdefghijklm", 1), entry("", -1), entry("A", -1), entry("b", 1001), entry("a", -2), entry("c", 1000)},
		dirIn("0: 0 | 0 a=1 c=1000"), []bool{true, false, false, false, false, false, false, false, true})
	wantPlayed(t, "five, doubled",
		[]impl.Name{entry("a", 1), entry("b", 2), entry("c", 3), entry("d", 4), entry("e", 5), entry("d", -1)},
		dirIn("1: 0 1 | 1 b=2 | 1 a=1 c=3 e=5"), []bool{true, true, true, true, true, true})
}

// What is refused for want of room changes nothing, and what follows is played on.
func TestPlayDirGoesOnBehindARefusal(t *testing.T) {
	c := newCleft()
	var l []impl.Name
	var told []bool
	for i, name := range []string{"at", "it", "np", "vp", "j", "c6", "at"} {
		l, told = append(l, entry(name, i)), append(told, c.play(entry(name, i)))
	}
	wantPlayed(t, "six that are alike, and one of them again", l, dirIn("0: 0 | 0 at=6 it=1 np=2 vp=3"), []bool{true, true, true, true, false, false, true})
	for _, x := range []impl.Name{entry("at", -1), entry("c6", 9), entry("rx", 7), entry("j", 9), entry("a", 8)} {
		l, told = append(l, x), append(told, c.play(x))
	}
	wantPlayed(t, "and more", l, c.laid(), told)
}

func TestPlayDirOfAsManyAsThereMayBe(t *testing.T) {
	var l []impl.Name
	var told []bool
	c := newCleft()
	for i := range 201 {
		l = append(l, entry(shortNames()[7*i], i))
	}
	for _, x := range l[:200] {
		told = append(told, c.play(x))
	}
	wantPlayed(t, "200 names", l[:200], c.laid(), told)
	same := slices.Repeat([]impl.Name{entry("a", 1)}, 201)
	wantPlayed(t, "200 times the same", same[:200], dirIn("0: 0 | 0 a=1"), slices.Repeat([]bool{true}, 200))
	none := slices.Repeat([]impl.Name{entry("", -1)}, 201)
	wantPlayed(t, "200 that are not there", none[:200], dirIn("0: 0 | 0"), make([]bool, 200))
	for _, l := range [][]impl.Name{l, same, none} {
		got, did, ok := impl.PlayDir(l)
		wantNoDir(t, "PlayDir of 201", got, ok)
		if len(did) != 0 {
			t.Errorf("PlayDir of 201 told %v", did)
		}
	}
}
