package tests

import (
	"fmt"
	"math"
	"slices"
	"strings"
	"testing"

	"loop.example/g00261/impl"
)

func TestConstantsOfSystems(t *testing.T) {
	if impl.MaxHeld != 12 {
		t.Error("MaxHeld is not 12")
	}
	if impl.OwnFree != 1 || impl.OwnFile != 2 || impl.OwnHead != 3 || impl.OwnTwice != 4 || impl.OwnNobody != 5 {
		t.Error("who owns")
	}
}

func TestNewSystemAtTheEdges(t *testing.T) {
	for _, blocks := range []int{1, 2, 12, impl.MaxBlocks - 1, impl.MaxBlocks} {
		for _, head := range []int{0, 1, blocks / 2, blocks - 1, blocks} {
			s, ok := impl.NewSystem(blocks, head)
			want := impl.System{Head: head, Room: impl.Free{Blocks: blocks}}
			if head < blocks {
				want.Room = placed(blocks, extent(head, blocks-head))
			}
			wantSystem(t, "NewSystem", s, ok, want)
			wantOwners(t, s, slices.Concat(slices.Repeat([]int{3}, head), slices.Repeat([]int{1}, blocks-head)))
			wantChecked(t, s, true)
			wantNotUsedBy(t, s, "a")
		}
		for _, head := range []int{-1, -2, -blocks, blocks + 1, blocks + 2, math.MaxInt, math.MinInt} {
			s, ok := impl.NewSystem(blocks, head)
			wantNoSystem(t, "NewSystem", s, ok)
		}
	}
	for _, blocks := range []int{0, -1, impl.MaxBlocks + 1, math.MaxInt, math.MinInt} {
		for _, head := range []int{-1, 0, 1, blocks, blocks - 1, math.MaxInt, math.MinInt} {
			s, ok := impl.NewSystem(blocks, head)
			wantNoSystem(t, "NewSystem", s, ok)
		}
	}
}

// wantGoodSystem asks the words, too; what is not good is refused by all, what is good is asked.
func wantGoodSystem(t *testing.T, what string, s impl.System, want bool) {
	t.Helper()
	if got := checkGoodSystem(t, s); got != want {
		t.Errorf("%s: GoodSystem of %v: got %v", what, s, got)
	}
}

func TestGoodSystemOfHead(t *testing.T) {
	for _, text := range []string{"0 .....", "0 xx.xx", "0 xxxxx", "0 .x.a. | a 1 0+1@3"} {
		for head := -3; head <= 8; head++ {
			s := systemIn(text)
			s.Head = head
			wantGoodSystem(t, "Head", s, head >= 0 && head <= 5)
		}
		for _, head := range []int{math.MaxInt, math.MinInt, 400, 401} {
			s := systemIn(text)
			s.Head = head
			wantGoodSystem(t, "Head far away", s, false)
		}
	}
	for _, head := range []int{399, 400, 401} {
		s := systemIn("0 " + strings.Repeat(".", 400))
		s.Head = head
		wantGoodSystem(t, "Head of many blocks", s, head <= 400)
	}
}

func TestGoodSystemOfRoom(t *testing.T) {
	for what, f := range badFrees() {
		wantGoodSystem(t, what, impl.System{Room: f}, false)
		wantGoodSystem(t, what, impl.System{Room: f, Files: systemIn("0 . | a 0 | b 3").Files}, false)
	}
	wantGoodSystem(t, "no extents", impl.System{Room: impl.Free{Blocks: 400}}, true)
	wantGoodSystem(t, "MaxExtents", impl.System{Room: everyOther(impl.MaxExtents)}, true)
	wantGoodSystem(t, "lists that are empty and not nil", impl.System{Room: impl.Free{Blocks: 1, ByPlace: []impl.Extent{}, BySize: []impl.Extent{}}, Files: []impl.Held{}}, true)
	wantGoodSystem(t, "lists of a file that are empty and not nil", impl.System{Room: freeIn("."), Files: []impl.Held{{Name: "a", Map: impl.FileMap{Pieces: []impl.Piece{}}}}}, true)
}

func TestGoodSystemOfNames(t *testing.T) {
	for text, want := range map[string]bool{
		"0 .": true, "0 . | a 0": true, "0 . | a 0 | b 0": true, "0 . | b 0 | a 0": false, "0 . | a 0 | a 0": false, "0 . | a 0 | b 0 | b 0": false, "0 . | a 0 | c 0 | b 0": false, "0 . | b 0 | a 0 | c 0": false, "0 . | a 0 | b 0 | a 0": false,
		"0 . | a 0 | ab 0": true, "0 . | ab 0 | a 0": false, "0 . | ab 0 | b 0": true, "0 . | - 0 | . 0 | 0 0 | a 0": true, "0 . | a 0 | 0 0": false, "0 . | . 0 | - 0": false, "0 . | a- 0 | a. 0 | a0 0 | aa 0": true, "0 . | abcdefghijkl 0": true, "0 . | abcdefghijklm 0": false,
		"0 . | A 0": false, "0 . | a/b 0": false, "0 . | / 0": false, "0 . | a_b 0": false, "0 . | a 0 | B 0": false, "0 . | B 0 | a 0": false,
	} {
		wantGoodSystem(t, text, systemIn(text), want)
	}
	for _, name := range notNames() {
		held := impl.Held{Name: name}
		wantGoodSystem(t, "no name", impl.System{Room: freeIn("."), Files: []impl.Held{held}}, false)
		wantGoodSystem(t, "no name ahead", impl.System{Room: freeIn("."), Files: []impl.Held{held, {Name: "zz"}}}, false)
		wantGoodSystem(t, "no name behind", impl.System{Room: freeIn("."), Files: []impl.Held{{Name: "-"}, held}}, false)
	}
}

func TestGoodSystemOfAsManyFilesAsItMayHold(t *testing.T) {
	for many := 10; many <= 15; many++ {
		s := systemIn("0 .")
		for i := range many {
			s.Files = append(s.Files, impl.Held{Name: string([]byte{byte('a' + i)})})
		}
		wantGoodSystem(t, fmt.Sprint(many, " files"), s, many <= 12)
	}
	s := systemIn("0 .")
	s.Files = make([]impl.Held, 100000)
	wantGoodSystem(t, "very many files", s, false)
}

func TestGoodSystemOfSizesAndMaps(t *testing.T) {
	for _, size := range []int{-2, -1, 0, 1, 199, 200, 201, 202, math.MaxInt, math.MinInt, math.MaxInt - 200, math.MinInt + 200} {
		s := systemIn("0 . | a 0 | b 0 | c 0")
		for i := range s.Files {
			c := copySystem(s)
			c.Files[i].Size = size
			wantGoodSystem(t, fmt.Sprint("Size ", size), c, size >= 0 && size <= 200)
		}
	}
	for _, text := range goodMapTexts() {
		end := 0
		for _, p := range mapIn(text).Pieces {
			end = p.From + p.Long
		}
		for size := end - 3; size <= end+3; size++ {
			held := impl.Held{Name: "a", Size: size, Map: mapIn(text)}
			s := impl.System{Room: freeIn("x.x"), Files: []impl.Held{held}}
			wantGoodSystem(t, fmt.Sprint(text, " and Size ", size), s, size >= end && size <= 200)
		}
	}
	for what, m := range badMaps() {
		for _, size := range []int{0, 1, 199, 200} {
			s := impl.System{Room: impl.Free{Blocks: 400}, Files: []impl.Held{{Name: "a", Size: 200}, {Name: "b", Size: size, Map: m}}}
			wantGoodSystem(t, what, s, false)
		}
	}
	for text, want := range map[string]bool{
		"0 xxxxx | a 3 0+3@2": true, "0 xxxxx | a 2 0+3@2": false, "0 xxxxx | a 3 2+1@2": true, "0 xxxxx | a 2 2+1@2": false, "0 xxxxx | a 3 3+1@2": false, "0 xxxxx | a 0 0+1@2": false, "0 xxxxx | a 5 0+1@2 3+1@4*": true, "0 xxxxx | a 4 0+1@2 3+1@4*": true, "0 xxxxx | a 3 0+1@2 3+1@4*": false, "0 xxxxx | a 0 | b 1 0+1@2 | c 2": true, "0 xxxxx | a 0 | b 0 0+1@2 | c 2": false,
		"0 x | a 200 199+1@0": true, "0 x | a 199 199+1@0": false, "0 x | a 200 0+200@200": true, "0 x | a 199 0+200@200": false,
	} {
		wantGoodSystem(t, text, systemIn(text), want)
	}
}

// codesIn reads owners: the first letters of free, file, head, twice and nobody, the free one being '.'.
func codesIn(text string) []int {
	l := make([]int, len(text))
	for i := range len(text) {
		l[i] = 1 + strings.IndexByte(".fhtn", text[i])
	}
	return l
}

// wantOwned also asks whether it is right.
func wantOwned(t *testing.T, s impl.System, codes string) {
	t.Helper()
	wantOwners(t, s, codesIn(codes))
	wantChecked(t, s, !strings.ContainsAny(codes, "tn"))
	wantOwners(t, estateOf(s).laid(), estateOf(s).owners())
}

func TestOwnersOfSystems(t *testing.T) {
	for text, want := range map[string]string{
		"0 .": ".", "1 #": "h", "0 x": "n", "1 .": "t", "2 ##..": "hh..", "0 ....": "....", "4 ####": "hhhh", "2 ##aaabbaa... | a 5 0+3@2 3+2@7 | b 2 0+2@5": "hhfffffff...",
		// A file's first block is anywhere, its last one at the end.
		"1 #.a.b | a 9 8+1@2* | b 3 0+1@4": "h.f.f", "0 aaaa | a 4 0+2@2 2+2@0": "ffff", "0 ba | a 1 0+1@1* | b 1 0+1@0*": "ff", "0 ..  | a 0 | b 7": "..",
		// By nobody.
		"1 #x.x": "hn.n", "0 xxx": "nnn", "0 .xx | a 1 0+1@1": ".fn", "2 ##x | a 3": "hhn",
		// The head and a file, the head and free blocks.
		"3 ##aaa. | a 3 0+3@2": "hhtff.", "3 ###a. | a 2 0+1@0 1+1@3": "thhf.", "3 ##...": "hht..", "5 .....": "ttttt", "2 #.a. | a 1 0+1@2": "htf.",
		// A file and free blocks.
		"2 ##a. | a 2 0+2@2": "hhft", "0 ... | a 3 0+3@0": "ttt", "1 #.a. | a 2 0+2@1*": "htf.", "1 #a.a | a 3 0+3@1": "hftf",
		// Two files, three files.
		"1 #ab. | a 2 0+2@1 | b 1 0+1@2": "hft.", "1 #ab. | a 1 0+1@1 | b 2 0+1@1 1+1@2*": "htf.", "0 aa | a 2 0+2@0 | b 2 0+2@0 | c 2 0+2@0": "tt", "0 xx | a 1 0+1@0 | b 1 0+1@1 | c 1 0+1@0": "tf",
		// More of them.
		"2 #.. | a 1 0+1@1": "ht.", "1 .. | a 1 0+1@0 | b 1 0+1@0": "t.", "2 xx | a 1 0+1@0 | b 1 0+1@0": "th", "3 .x.x | a 2 0+2@0 | b 1 0+1@1": "tttn",
		// What lies behind the last block of Room is none of it.
		"1 #.. | a 1 0+1@3": "h..", "1 #.a | a 2 0+2@2": "h.f", "0 . | a 1 0+1@399 | b 200 0+200@200": ".", "0 .x | a 1 0+1@2 | b 1 0+1@2": ".n",
	} {
		wantGoodSystem(t, text, systemIn(text), true)
		wantOwned(t, systemIn(text), want)
	}
}

func TestOwnersOfAllBlocks(t *testing.T) {
	s := systemIn("0 .")
	s.Room = impl.Free{Blocks: 400}
	s.Files = []impl.Held{heldIn("a 200 0+200@0"), heldIn("b 200 0+200@200*")}
	wantOwned(t, s, strings.Repeat("f", 400))
	s.Head = 400
	wantOwned(t, s, strings.Repeat("t", 400))
	s.Files = s.Files[1:]
	wantOwned(t, s, strings.Repeat("h", 200)+strings.Repeat("t", 200))
	s.Room = placed(400, extent(0, 400))
	wantOwned(t, s, strings.Repeat("t", 400))
	s.Head, s.Files = 0, nil
	wantOwned(t, s, strings.Repeat(".", 400))
	s.Room = everyOther(60)
	wantOwned(t, s, "n"+strings.Repeat(".n", 60)+strings.Repeat("n", 279))
}

// wantWrittenFile: the text of what is there then; "no" where it is refused.
func wantWrittenFile(t *testing.T, what string, text string, name string, from int, long int, want string) {
	t.Helper()
	got, ok := impl.WriteFile(systemIn(text), name, from, long)
	if want == "no" {
		wantNoSystem(t, what, got, ok)
	} else {
		wantSystem(t, what, got, ok, systemIn(want))
		wantChecked(t, got, true)
	}
	checkWriteFile(t, estateIn(text), name, from, long)
}

func TestWriteFileOfNewFiles(t *testing.T) {
	wantWrittenFile(t, "the first", "2 ##....", "a", 0, 2, "2 ##aa.. | a 2 0+2@2")
	wantWrittenFile(t, "behind a hole", "2 ##....", "a", 3, 2, "2 ##aa.. | a 5 3+2@2")
	wantWrittenFile(t, "the last block of a file", "2 ##....", "a", 199, 1, "2 ##a... | a 200 199+1@2")
	wantWrittenFile(t, "all there is", "2 ##....", "a", 0, 4, "2 ##aaaa | a 4 0+4@2")
	wantWrittenFile(t, "one more than there is", "2 ##....", "a", 0, 5, "no")
	wantWrittenFile(t, "of no room", "2 ##", "a", 0, 1, "no")
	wantWrittenFile(t, "no head", "0 ....", "a", 0, 1, "0 a... | a 1 0+1@0")
	wantWrittenFile(t, "ahead of another", "2 ##bb.. | b 2 0+2@2", "a", 0, 1, "2 ##bba. | a 1 0+1@4 | b 2 0+2@2")
	wantWrittenFile(t, "behind another", "2 ##bb.. | b 2 0+2@2", "ba", 1, 1, "2 ##bbc. | b 2 0+2@2 | ba 2 1+1@4")
	wantWrittenFile(t, "between others", "0 bd.. | b 1 0+1@0 | d 1 0+1@1", "c", 0, 1, "0 bdc. | b 1 0+1@0 | c 1 0+1@2 | d 1 0+1@1")
	wantWrittenFile(t, "behind one that has the same first bytes", "0 bd.. | b 1 0+1@0 | bb 1 0+1@1", "b-", 0, 1, "0 bdc. | b 1 0+1@0 | b- 1 0+1@2 | bb 1 0+1@1")
	for _, name := range []string{"a", "-", ".", "9", "zzzzzzzzzzzz", "a.b-c"} {
		wantWrittenFile(t, "a name", "0 ..", name, 0, 1, "0 x. | "+name+" 1 0+1@0")
	}
	for _, name := range notNames() {
		for _, text := range []string{"2 ##....", "2 ##bb.. | b 2 0+2@2"} {
			wantWrittenFile(t, "no name", text, name, 0, 1, "no")
		}
	}
}

func TestWriteFileOfEachLong(t *testing.T) {
	for long := -2; long <= 203; long++ {
		for _, head := range []int{0, 100, 300} {
			checkWriteFile(t, newEstate(t, 400, head), "a", 0, long)
			checkWriteFile(t, newEstate(t, 400, head), "a", 150, long)
		}
	}
	e := newEstate(t, 400, 0)
	for _, x := range [][2]int{{0, 200}, {1, 199}, {199, 1}, {198, 2}, {100, 100}} {
		got, ok := impl.WriteFile(e.laid(), "a", x[0], x[1])
		want := e.with("a", parcel{200, noSpots().with(impl.Piece{From: x[0], Long: x[1]})})
		want.free = withBlocks(e.free, extent(0, x[1]), false)
		wantSystem(t, "up to MaxFileBlocks", got, ok, want.laid())
	}
}

func TestWriteFileOfNoStretch(t *testing.T) {
	for _, x := range [][2]int{
		{0, 0}, {0, -1}, {0, 201}, {-1, 1}, {-1, 2}, {-1, 0}, {1, 200}, {199, 2}, {200, 1}, {200, 0}, {201, -1}, {201, 1}, {100, 101}, {100, 0}, {-200, 200}, {-1, 201},
		{math.MaxInt, 1}, {1, math.MaxInt}, {math.MaxInt, math.MaxInt}, {math.MinInt, 1}, {math.MinInt, math.MinInt}, {0, math.MinInt}, {math.MinInt, math.MaxInt}, {math.MinInt + 1, math.MaxInt}, {math.MaxInt, math.MinInt},
	} {
		for _, text := range []string{"0 ....", "0 aaaa.. | a 4 0+4@0", "0 a | a 200 0+1@0"} {
			wantWrittenFile(t, "no stretch", text, "a", x[0], x[1], "no")
			wantWrittenFile(t, "no stretch of a new file", text, "b", x[0], x[1], "no")
		}
	}
}

func TestWriteFileOfStretchesWithoutHoles(t *testing.T) {
	full := "2 ##aaabb | a 3 0+3@2 | b 2 0+1@6* 1+1@5"
	for from := range 3 {
		for long := 1; long <= 3-from; long++ {
			wantWrittenFile(t, "no holes, no room", full, "a", from, long, full)
		}
	}
	wantWrittenFile(t, "what is Fresh stays so", full, "b", 0, 2, full)
	wantWrittenFile(t, "one block beyond, no room", full, "a", 2, 2, "no")
	wantWrittenFile(t, "a greater Size stays", "2 ##aaa. | a 9 0+3@2", "a", 1, 2, "2 ##aaa. | a 9 0+3@2")
	wantWrittenFile(t, "a Size of as much stays", "2 ##aaa. | a 9 0+3@2", "a", 8, 1, "2 ##aaaa | a 9 0+3@2 8+1@5")
	wantWrittenFile(t, "a less one does not", "2 ##aaa. | a 9 0+3@2", "a", 9, 1, "2 ##aaaa | a 10 0+3@2 9+1@5")
	wantWrittenFile(t, "a Size of holes alone stays", "2 ##.. | a 9", "a", 3, 1, "2 ##a. | a 9 3+1@2")
}

func TestWriteFileOfOneHole(t *testing.T) {
	wantWrittenFile(t, "beside the block ahead", "0 aa..a. | a 5 0+2@0 4+1@4", "a", 0, 5, "0 aaaaa. | a 5 0+5@0")
	wantWrittenFile(t, "near the block ahead", "0 aaa... | a 5 0+2@0 4+1@2", "a", 0, 5, "0 aaaaa. | a 5 0+2@0 2+2@3 4+1@2")
	wantWrittenFile(t, "a part of it, beside the block ahead", "0 .aa... | a 9 0+2@1", "a", 1, 3, "0 .aaaa. | a 9 0+4@1")
	wantWrittenFile(t, "a part of it, behind a hole", "0 .aa... | a 9 0+2@1", "a", 3, 2, "0 .aaaa. | a 9 0+2@1 3+2@3")
	wantWrittenFile(t, "a block of it, behind a hole", "0 .aa... | a 9 0+2@1", "a", 3, 1, "0 aaa... | a 9 0+2@1 3+1@0")
	wantWrittenFile(t, "a part of it, ahead of a piece", "0 .aa... | a 9 6+2@1", "a", 5, 1, "0 aaa... | a 9 5+3@0")
	wantWrittenFile(t, "at the first block", "0 ...a.. | a 4 3+1@3", "a", 0, 2, "0 aa.a.. | a 4 0+2@0 3+1@3")
	wantWrittenFile(t, "at the first block, far from the first one of Room", "3 ###a.. | a 4 3+1@3", "a", 0, 2, "3 ###aaa | a 4 0+2@4 3+1@3")
	wantWrittenFile(t, "not joined with a Fresh one", "0 aa.... | a 2 0+2@0*", "a", 0, 4, "0 aaaa.. | a 4 0+2@0* 2+2@2")
	wantWrittenFile(t, "not joined with a Fresh one behind", "0 .aa... | a 3 1+2@1*", "a", 0, 3, "0 aaa... | a 3 0+1@0 1+2@1*")
	wantWrittenFile(t, "joined with both", "0 aa.aa. | a 5 0+2@0 3+2@3", "a", 2, 1, "0 aaaaa. | a 5 0+5@0")
	wantWrittenFile(t, "another file's blocks between", "0 a.b..c | a 1 0+1@0 | b 1 0+1@2 | c 1 0+1@5", "a", 1, 2, "0 a.baac | a 3 0+1@0 1+2@3 | b 1 0+1@2 | c 1 0+1@5")
}

func TestWriteFileOfSeveralHoles(t *testing.T) {
	three := "0 a..a..a.. | a 9 0+1@0 3+1@3 6+1@6"
	wantWrittenFile(t, "each beside the block ahead", three, "a", 0, 9, "0 aaaaaaaaa | a 9 0+9@0")
	wantWrittenFile(t, "the first one in part", three, "a", 2, 4, "0 aa.aaaa.. | a 9 0+1@0 2+1@1 3+4@3")
	wantWrittenFile(t, "the last one alone", three, "a", 6, 3, "0 a..a..aaa | a 9 0+1@0 3+1@3 6+3@6")
	wantWrittenFile(t, "elsewhere", "0 a.a.a...... | a 7 0+1@0 3+1@2 6+1@4", "a", 0, 8, "0 a.aaaaaaa.. | a 8 0+1@0 1+2@5 3+1@2 4+2@7 6+1@4 7+1@3")
	wantWrittenFile(t, "at both sides of a piece", "0 ..aa... | a 9 3+2@2", "a", 2, 4, "0 a.aaa.. | a 9 2+1@0 3+3@2")
	wantWrittenFile(t, "the second one beside what the first one got", "1 #a...... | a 3 1+1@1", "a", 0, 3, "1 #aaa.... | a 3 0+1@2 1+1@1 2+1@3")
	wantWrittenFile(t, "the second one not there, as that is another's", "1 #bb.ab... | a 2 1+1@4 | b 3 0+2@1 2+1@5", "a", 0, 3, "1 #bbaaba.. | a 3 0+2@3 2+1@6 | b 3 0+2@1 2+1@5")
	wantWrittenFile(t, "the first one takes what the second one needs", "0 b..a | a 4 1+1@3 | b 1 0+1@0", "a", 0, 4, "no")
	wantWrittenFile(t, "just used up", "0 b..a | a 4 1+1@3 | b 1 0+1@0", "a", 0, 3, "0 baaa | a 4 0+1@1 1+1@3 2+1@2 | b 1 0+1@0")
}

func TestWriteFileBesideTheBlockAhead(t *testing.T) {
	wantWrittenFile(t, "one behind", "0 ..a.. | a 1 0+1@2", "a", 1, 1, "0 ..aa. | a 2 0+2@2")
	wantWrittenFile(t, "of two as near the one ahead", "0 ..abb.. | a 1 0+1@2 | b 2 0+2@3", "a", 1, 1, "0 .aabb.. | a 2 0+1@2 1+1@1 | b 2 0+2@3")
	wantWrittenFile(t, "the one behind is nearer", "0 .bab.. | a 1 0+1@2 | b 2 0+1@1 1+1@3", "a", 1, 1, "0 .baba. | a 2 0+1@2 1+1@4 | b 2 0+1@1 1+1@3")
	wantWrittenFile(t, "the one ahead is nearer", "0 ..abbb. | a 1 0+1@2 | b 3 0+3@3", "a", 1, 1, "0 .aabbb. | a 2 0+1@2 1+1@1 | b 3 0+3@3")
	wantWrittenFile(t, "on the last block of Room", "0 ..b.a | a 1 0+1@4 | b 1 0+1@2", "a", 1, 1, "0 ..baa | a 2 0+1@4 1+1@3 | b 1 0+1@2")
	wantWrittenFile(t, "on the last block of Room, what is free is far", "0 ..bba | a 1 0+1@4 | b 2 0+2@2", "a", 1, 1, "0 .abba | a 2 0+1@4 1+1@1 | b 2 0+2@2")
	wantWrittenFile(t, "on the last block of Room, two blocks", "0 ..b...a | a 1 0+1@6 | b 1 0+1@2", "a", 1, 2, "0 ..b.aaa | a 3 0+1@6 1+2@4 | b 1 0+1@2")
	wantWrittenFile(t, "ahead of the last block of Room", "0 ..b.a. | a 1 0+1@4 | b 1 0+1@2", "a", 1, 1, "0 ..b.aa | a 2 0+2@4 | b 1 0+1@2")
	wantWrittenFile(t, "behind the last block of Room", "0 ..b.b. | a 1 0+1@9 | b 2 0+1@2 1+1@4", "a", 1, 1, "0 ..b.ba | a 2 0+1@9 1+1@5 | b 2 0+1@2 1+1@4")
	wantWrittenFile(t, "on the last block of all", "0 ..b.b. | a 1 0+1@399 | b 2 0+1@2 1+1@4", "a", 1, 2, "0 aab.b. | a 3 0+1@399 1+2@0 | b 2 0+1@2 1+1@4")
	wantWrittenFile(t, "of one block of Room", "0 . | b 1 0+1@399", "b", 1, 1, "0 b | b 2 0+1@399 1+1@0")
	wantWrittenFile(t, "going on behind the last block of Room", "0 ..a | a 1 0+1@2 | b 1 0+1@3", "a", 1, 1, "0 .aa | a 2 0+1@2 1+1@1 | b 1 0+1@3")
}

// Where no extent has all the greatest one is used up first, of several the last by place, and the rest goes on beside it.
func TestWriteFileWhereNoExtentHasAll(t *testing.T) {
	two := "0 ..b... | b 1 0+1@2"
	wantWrittenFile(t, "a part of the second one", two, "a", 0, 4, "0 .abaaa | a 4 0+3@3 3+1@1 | b 1 0+1@2")
	wantWrittenFile(t, "just used up", two, "a", 0, 5, "0 aabaaa | a 5 0+3@3 3+2@0 | b 1 0+1@2")
	wantWrittenFile(t, "one more", two, "a", 0, 6, "no")
	wantWrittenFile(t, "many more", two, "a", 0, 200, "no")
	alike := "0 ..b..b. | b 2 0+1@2 1+1@5"
	wantWrittenFile(t, "two as great, and one", alike, "a", 0, 3, "0 ..baaba | a 3 0+2@3 2+1@6 | b 2 0+1@2 1+1@5")
	wantWrittenFile(t, "two as great", alike, "a", 0, 4, "0 aabaab. | a 4 0+2@3 2+2@0 | b 2 0+1@2 1+1@5")
	wantWrittenFile(t, "two as great, and one more", alike, "a", 0, 5, "0 aabaaba | a 5 0+2@3 2+2@0 4+1@6 | b 2 0+1@2 1+1@5")
	wantWrittenFile(t, "single ones", "0 .b.b.b. | b 3 0+1@1 1+1@3 2+1@5", "a", 0, 3, "0 .bababa | a 3 0+1@6 1+1@4 2+1@2 | b 3 0+1@1 1+1@3 2+1@5")
	wantWrittenFile(t, "the rest beside the greatest", "0 .b...b.b. | b 3 0+1@1 1+1@5 2+1@7", "a", 0, 4, "0 .baaabab. | a 4 0+3@2 3+1@6 | b 3 0+1@1 1+1@5 2+1@7")
	wantWrittenFile(t, "what lies beside the block ahead comes last", "0 a.b.. | a 1 0+1@0 | b 1 0+1@2", "a", 1, 3, "0 aabaa | a 4 0+1@0 1+2@3 3+1@1 | b 1 0+1@2")
	holes := "0 a.b...b. | a 5 1+1@0 | b 2 0+1@2 1+1@6"
	wantWrittenFile(t, "the second hole has all of one", holes, "a", 0, 5, "0 aabaaab. | a 5 0+1@1 1+1@0 2+3@3 | b 2 0+1@2 1+1@6")
	wantWrittenFile(t, "the second hole has two", holes, "a", 0, 6, "0 aabaaaba | a 6 0+1@1 1+1@0 2+3@3 5+1@7 | b 2 0+1@2 1+1@6")
	wantWrittenFile(t, "the second hole has not enough", holes, "a", 0, 7, "no")
}

// Each of these is good and not right: nothing may be written, also where there is no hole.
func TestWriteFileOfWhatIsNotRight(t *testing.T) {
	for _, text := range []string{
		"1 #xa.. | a 1 0+1@2", "0 x.a.. | a 1 0+1@2", "1 #.a.x | a 1 0+1@2", // by nobody
		"1 ..a.. | a 1 0+1@2", "2 #.a.. | a 1 0+1@2", "3 ##a.. | a 1 0+1@2", "5 ##a.. | a 1 0+1@2", // the head
		"1 #.a.. | a 2 0+2@2", "1 #.a.. | a 1 0+1@2 | b 1 0+1@3", "1 #.ab. | a 2 0+2@2 | b 1 0+1@3", "1 #.a.. | a 1 0+1@2 | b 1 0+1@2", // a file
	} {
		wantGoodSystem(t, text, systemIn(text), true)
		wantChecked(t, systemIn(text), false)
		for _, name := range []string{"a", "b", "c"} {
			for from := range 3 {
				wantWrittenFile(t, "not right", text, name, from, 1, "no")
			}
		}
	}
}

// manyHeld is so many files of a block each.
func manyHeld(many int) estate {
	e := estate{free: slices.Repeat([]bool{true}, 20), files: map[string]parcel{}}
	for i := range many {
		e = e.with(string([]byte{byte('a' + 2*i)}), parcel{1, noSpots().with(impl.Piece{Long: 1, At: i})})
		e.free[i] = false
	}
	return e
}

func TestWriteFileOfAsManyFilesAsThereMayBe(t *testing.T) {
	for many := range 13 {
		e := manyHeld(many)
		for _, name := range []string{"-", "b", "n", "z"} {
			got, ok := impl.WriteFile(e.laid(), name, 0, 2)
			if many < 12 {
				wantUsedBy(t, got, name, 2)
			} else {
				wantNoSystem(t, "one file more", got, ok)
			}
			checkWriteFile(t, e, name, 0, 2)
		}
		for _, name := range e.names() {
			next := checkWriteFile(t, e, name, 0, 3)
			wantUsedBy(t, next.laid(), name, 3)
			checkRemoveFile(t, e, name)
		}
	}
}

// striped is a file of so many pieces of a block, with a hole of one block between them; on the device all of them lie side by side, or so many apart.
func striped(many int, apart int) estate {
	e := estate{free: slices.Repeat([]bool{true}, 400), files: map[string]parcel{}}
	f := parcel{2 * many, noSpots()}
	for i := range many {
		f.spots = f.spots.with(impl.Piece{From: 2 * i, Long: 1, At: apart * i})
		e.free[apart*i] = false
	}
	return e.with("a", f)
}

func TestWriteFileOfAsManyPiecesAsThereMayBe(t *testing.T) {
	for many := 37; many <= 40; many++ {
		for apart := 1; apart <= 3; apart++ {
			e := striped(many, apart)
			for from := 70; from <= 100; from++ {
				for _, long := range []int{1, 2, 3, 40} {
					checkWriteFile(t, e, "a", from, long)
				}
			}
			checkWriteFile(t, e, "a", 0, 2*many)
		}
	}
	got, ok := impl.WriteFile(striped(40, 1).laid(), "a", 1, 1)
	wantNoSystem(t, "a piece more", got, ok)
	for _, c := range []struct{ apart, from, long, pieces int }{{1, 79, 1, 40}, {2, 1, 1, 39}, {2, 0, 80, 1}, {3, 5, 1, 40}} {
		got, ok := impl.WriteFile(striped(40, c.apart).laid(), "a", c.from, c.long)
		if !ok || len(got.Files[0].Map.Pieces) != c.pieces {
			t.Errorf("%v: got %v %v", c, got, ok)
		}
	}
}

// The hole at 75 gets a piece of its own, the one at 77 joins both its sides: in the end there are as many pieces as there may be.
func TestWriteFileOfAPieceMoreOnTheWay(t *testing.T) {
	pieces := ""
	for i := range 37 {
		pieces += fmt.Sprintf(" %d+1@%d", 2*i, i)
	}
	text := "0 " + strings.Repeat("a", 37) + "ab.ba.a | a 79" + pieces
	other := " | b 2 0+1@38 1+1@40"
	full := text + " 74+1@37 76+1@41 78+1@43" + other
	if many := len(systemIn(full).Files[0].Map.Pieces); many != 40 {
		t.Fatalf("%d pieces", many)
	}
	wantWrittenFile(t, "a piece more", full, "a", 75, 1, "no")
	wantWrittenFile(t, "a piece less", full, "a", 77, 1, strings.Replace(text, "ab.ba.a", "ab.baaa", 1)+" 74+1@37 76+3@41"+other)
	wantWrittenFile(t, "both", full, "a", 75, 3, strings.Replace(text, "ab.ba.a", "ababaaa", 1)+" 74+1@37 75+1@39 76+3@41"+other)
}

func wantCut(t *testing.T, what string, text string, name string, size int, want string) {
	t.Helper()
	got, ok := impl.CutFile(systemIn(text), name, size)
	if want == "no" {
		wantNoSystem(t, what, got, ok)
	} else {
		wantSystem(t, what, got, ok, systemIn(want))
	}
	checkCutFile(t, estateIn(text), name, size)
}

func wantRemoved(t *testing.T, what string, text string, name string, want string) {
	t.Helper()
	got, ok := impl.RemoveFile(systemIn(text), name)
	if want == "no" {
		wantNoSystem(t, what, got, ok)
	} else {
		wantSystem(t, what, got, ok, systemIn(want))
		wantNotUsedBy(t, got, name)
	}
	checkRemoveFile(t, estateIn(text), name)
}

func TestCutFileOfEachSize(t *testing.T) {
	text := "2 ##aaabaac. | a 9 0+3@2 4+1@7 7+1@6* | b 3 1+1@5 | c 1 0+1@8"
	other := " | b 3 1+1@5 | c 1 0+1@8"
	for size, want := range map[int]string{
		9: text, 8: "2 ##aaabaac. | a 8 0+3@2 4+1@7 7+1@6*" + other, 7: "2 ##aaab.ac. | a 7 0+3@2 4+1@7" + other, 6: "2 ##aaab.ac. | a 6 0+3@2 4+1@7" + other, 5: "2 ##aaab.ac. | a 5 0+3@2 4+1@7" + other,
		4: "2 ##aaab..c. | a 4 0+3@2" + other, 3: "2 ##aaab..c. | a 3 0+3@2" + other, 2: "2 ##aa.b..c. | a 2 0+2@2" + other, 1: "2 ##a..b..c. | a 1 0+1@2" + other, 0: "2 ##...b..c. | a 0" + other,
		-1: "no", 10: "no", 11: "no", 200: "no", 201: "no", -2: "no", math.MaxInt: "no", math.MinInt: "no", math.MaxInt - 200: "no", math.MinInt + 200: "no",
	} {
		wantCut(t, fmt.Sprint("CutFile to ", size), text, "a", size, want)
	}
}

func TestCutFileAtTheEdges(t *testing.T) {
	wantCut(t, "joined with what is free", "0 .aa. | a 2 0+2@1", "a", 0, "0 .... | a 0")
	wantCut(t, "joined with what is free ahead", "0 .ab. | a 1 0+1@1 | b 1 0+1@2", "a", 0, "0 ..b. | a 0 | b 1 0+1@2")
	wantCut(t, "not joined with what is free", "0 .bab. | a 1 0+1@2 | b 2 0+1@1 1+1@3", "a", 0, "0 .b.b. | a 0 | b 2 0+1@1 1+1@3")
	wantCut(t, "a piece in two", "0 aaaa | a 4 0+4@0*", "a", 3, "0 aaa. | a 3 0+3@0*")
	wantCut(t, "holes alone", "0 .. | a 9", "a", 4, "0 .. | a 4")
	wantCut(t, "holes alone, to 0", "0 .. | a 200", "a", 0, "0 .. | a 0")
	wantCut(t, "holes alone, to its Size", "0 .. | a 200", "a", 200, "0 .. | a 200")
	wantCut(t, "holes behind all pieces", "0 a. | a 9 0+1@0", "a", 1, "0 a. | a 1 0+1@0")
	wantCut(t, "Size 0", "0 .. | a 0", "a", 0, "0 .. | a 0")
	wantCut(t, "Size 0, to more", "0 .. | a 0", "a", 1, "no")
	wantCut(t, "Size 0, to less", "0 .. | a 0", "a", -1, "no")
	wantCut(t, "MaxFileBlocks", "0 a. | a 200 199+1@0", "a", 199, "0 .. | a 199")
	wantCut(t, "more than MaxFileBlocks", "0 a. | a 200 199+1@0", "a", 201, "no")
	for _, name := range append(notNames(), "b", "aa", "z", "-") {
		wantCut(t, "a file that is not there", "0 a. | a 1 0+1@0", name, 0, "no")
		wantCut(t, "of no files", "0 ..", name, 0, "no")
		wantRemoved(t, "a file that is not there", "0 a. | a 1 0+1@0", name, "no")
		wantRemoved(t, "of no files", "0 ..", name, "no")
	}
}

func TestRemoveFile(t *testing.T) {
	text := "2 ##aaabaac. | a 9 0+3@2 4+1@7 7+1@6* | b 3 1+1@5 | c 1 0+1@8"
	wantRemoved(t, "the first", text, "a", "2 ##...b..c. | b 3 1+1@5 | c 1 0+1@8")
	wantRemoved(t, "the second", text, "b", "2 ##aaa.aac. | a 9 0+3@2 4+1@7 7+1@6* | c 1 0+1@8")
	wantRemoved(t, "the last", text, "c", "2 ##aaabaa.. | a 9 0+3@2 4+1@7 7+1@6* | b 3 1+1@5")
	wantRemoved(t, "the only one", "2 ##aa. | a 2 0+2@2", "a", "2 ##...")
	wantRemoved(t, "without blocks", "2 ##a | a 1 0+1@2 | b 0", "b", "2 ##a | a 1 0+1@2")
	wantRemoved(t, "of holes alone", "2 ##a | a 1 0+1@2 | b 200", "b", "2 ##a | a 1 0+1@2")
	wantRemoved(t, "that ends with a hole", "2 ##a | a 200 0+1@2", "a", "2 ##.")
	wantRemoved(t, "all blocks", "0 aaa | a 3 0+1@2 1+1@1 2+1@0", "a", "0 ...")
}

func TestUsedBy(t *testing.T) {
	s := systemIn("2 ##aaabaac. | a 9 0+3@2 4+1@7 7+1@6* | b 3 1+1@5 | c 1 0+1@8 | d 0 | e 200")
	for name, want := range map[string]int{"a": 5, "b": 1, "c": 1, "d": 0, "e": 0} {
		wantUsedBy(t, s, name, want)
	}
	for _, name := range append(notNames(), "f", "aa", "-", "dd", "z") {
		wantNotUsedBy(t, s, name)
		wantNotUsedBy(t, systemIn("0 .."), name)
	}
	wantUsedBy(t, systemIn("0 . | a 200 0+200@100"), "a", 200)
	wantUsedBy(t, systemIn("0 . | a 200 0+100@100* 100+100@0"), "a", 200)
}

// heldAt has file blocks lie at places, one by one.
func heldAt(e estate, name string, places ...int) estate {
	f := parcel{len(places), noSpots()}
	for n, at := range places {
		f.spots[n] = spot{at: at}
		e.free[at] = false
	}
	return e.with(name, f)
}

// countedFrom are the numbers from one on, so many apart.
func countedFrom(from int, many int, apart int) []int {
	l := make([]int, many)
	for i := range l {
		l[i] = from + i*apart
	}
	return l
}

// crowded has as many free extents as there may be: 281, 283 and so on, a block each.
func crowded() estate {
	e := estate{free: slices.Repeat([]bool{true}, 400), files: map[string]parcel{}}
	e = heldAt(e, "a", append(countedFrom(0, 100, 1), countedFrom(101, 99, 1)...)...)
	e = heldAt(e, "b", countedFrom(200, 80, 1)...)
	e = heldAt(e, "c", append([]int{280}, countedFrom(286, 27, 2)...)...)
	e = heldAt(e, "d", countedFrom(340, 30, 2)...)
	e = heldAt(e, "e", 100, 282)
	return heldAt(e, "f", 284)
}

func TestCutFileOfAsManyExtentsAsThereMayBe(t *testing.T) {
	e := crowded()
	checkEstate(t, e)
	if many := len(e.laid().Room.ByPlace); many != 60 || !e.isRight() {
		t.Fatalf("%d extents", many)
	}
	for _, name := range e.names() {
		for size := -1; size <= e.files[name].size+1; size++ {
			checkCutFile(t, e, name, size)
		}
		checkRemoveFile(t, e, name)
		checkWriteFile(t, e, name, e.files[name].size, 1)
		checkWriteFile(t, e, name, e.files[name].size, 30)
	}
	for _, name := range []string{"a", "b"} {
		got, ok := impl.CutFile(e.laid(), name, 50)
		wantNoSystem(t, "one extent more", got, ok)
		got, ok = impl.RemoveFile(e.laid(), name)
		wantNoSystem(t, "one extent more", got, ok)
	}
	got, ok := impl.CutFile(e.laid(), "c", 1)
	if !ok || len(got.Room.ByPlace) != 33 {
		t.Error("joined with two each", got, ok)
	}
}

// One of the blocks that go makes an extent more, the other one joins two: in the end there are as many as there may be.
func TestCutFileOfAnExtentMoreOnTheWay(t *testing.T) {
	for _, places := range [][]int{{100, 282}, {282, 100}, {100, 282, 284}} {
		e := crowded().without("f")
		if len(places) < 3 {
			e = heldAt(e, "f", 284)
		}
		e = heldAt(e, "e", places...)
		checkEstate(t, e)
		got, ok := impl.CutFile(e.laid(), "e", 0)
		if !ok || len(got.Room.ByPlace) != 62-len(places) {
			t.Errorf("CutFile: got %d %v", len(got.Room.ByPlace), ok)
		}
		gone, ok := impl.RemoveFile(e.laid(), "e")
		if !ok || !sameFree(gone.Room, got.Room) {
			t.Errorf("RemoveFile: got %d %v", len(gone.Room.ByPlace), ok)
		}
		got, ok = impl.CutFile(e.laid(), "e", 1)
		if ok != (places[0] == 100) {
			t.Errorf("CutFile to 1: got %d %v", len(got.Room.ByPlace), ok)
		}
		for size := range len(places) + 1 {
			checkCutFile(t, e, "e", size)
		}
	}
}

// CutFile and RemoveFile ask for a good system, and for no right one; but what is free already can't be freed, nor what is none of Room.
func TestCutFileOfWhatIsNotRight(t *testing.T) {
	wantCut(t, "a block of nobody's", "1 #xaa. | a 2 0+2@2", "a", 1, "1 #xa.. | a 1 0+1@2")
	wantRemoved(t, "a block of nobody's", "1 #xaa. | a 2 0+2@2", "a", "1 #x...")
	wantCut(t, "the head's, too", "3 ##aa. | a 2 0+2@2", "a", 0, "3 ##... | a 0")
	wantCut(t, "another file's, too", "1 #ab. | a 2 0+2@1 | b 1 0+1@2", "a", 1, "1 #a.. | a 1 0+1@1 | b 1 0+1@2")
	wantRemoved(t, "another file's, too", "1 #ab. | a 2 0+2@1 | b 1 0+1@2", "b", "1 #a.. | a 2 0+2@1")
	wantCut(t, "free already", "1 #a.. | a 2 0+2@1", "a", 1, "no")
	wantCut(t, "free already, and more", "1 #a.. | a 2 0+2@1", "a", 0, "no")
	wantRemoved(t, "free already", "1 #a.. | a 2 0+2@1", "a", "no")
	wantCut(t, "free already, but that stays", "1 #.a. | a 2 0+2@1", "a", 1, "1 #... | a 1 0+1@1")
	wantCut(t, "free all", "0 .... | a 4 0+2@1", "a", 0, "no")
	wantCut(t, "nothing goes", "0 .... | a 4 0+2@1", "a", 2, "0 .... | a 2 0+2@1")
	wantCut(t, "behind the last block of Room", "1 #a. | a 3 0+1@1 1+2@5", "a", 1, "no")
	wantCut(t, "on both sides of it", "1 #aa | a 3 0+3@1", "a", 2, "no")
	wantCut(t, "ahead of it", "1 #aa | a 3 0+1@5 1+2@1", "a", 1, "1 #.. | a 1 0+1@5")
	wantRemoved(t, "behind the last block of Room", "1 #a. | a 3 0+1@1 1+2@5", "a", "no")
}
