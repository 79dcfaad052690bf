package tests

import (
	"fmt"
	"math"
	"slices"
	"strings"
	"testing"

	"loop.example/g00261/impl"
)

// goodSystemByTrial goes by the words of the chapter one by one.
func goodSystemByTrial(s impl.System) bool {
	if !goodFreeByTrial(s.Room) || s.Head < 0 || s.Head > s.Room.Blocks || len(s.Files) > 12 {
		return false
	}
	for i, f := range s.Files {
		if !isNameByTrial(f.Name) || i > 0 && s.Files[i-1].Name >= f.Name {
			return false
		}
		if f.Size < 0 || f.Size > 200 || !goodMapByTrial(f.Map) {
			return false
		}
		for _, p := range f.Map.Pieces {
			if p.From+p.Long > f.Size {
				return false
			}
		}
	}
	return true
}

func copySystem(s impl.System) impl.System {
	c := impl.System{Head: s.Head, Room: s.Room, Files: slices.Clone(s.Files)}
	c.Room.ByPlace, c.Room.BySize = slices.Clone(s.Room.ByPlace), slices.Clone(s.Room.BySize)
	for i, f := range c.Files {
		c.Files[i].Map.Pieces = slices.Clone(f.Map.Pieces)
	}
	return c
}

// goodSystemTexts are systems that are good, each in its own way; not all of them are right.
func goodSystemTexts() []string {
	return []string{
		"0 .", "0 x", "1 #", "1 .", "2 ##....", "0 ......", "2 ##aaabbaa... | a 5 0+3@2 3+2@7 | b 2 0+2@5", "2 ##aa.bb.... | a 9 0+1@3 3+1@2* | b 2 0+2@5", "0 a.a.a.... | a 7 0+1@0 3+1@2* 6+1@4 | c 0 | d 200",
		"0 ba.c | a 1 0+1@1 | b 1 0+1@0 | c 200 199+1@3*", "1 #.... | a 200", "1 #..b. | a 3 | b 1 0+1@3 | c 4", "0 aaaa | a 4 0+2@2 2+2@0",
		"1 #xa.. | a 1 0+1@2", "3 ##aa.. | a 2 0+2@2", "1 #.ab. | a 2 0+2@2 | b 1 0+1@3", "1 #.a.. | a 2 0+2@2", "0 .a. | a 3 0+1@1 1+2@5*",
	}
}

// badSystems are not as said, each in one way.
func badSystems() map[string]impl.System {
	l := map[string]impl.System{"nothing": {}, "no Room": {Files: systemIn("0 . | a 0").Files}}
	for _, text := range []string{
		"-1 ...", "4 ...", "0 ... | b 0 | a 0", "0 ... | a 0 | a 0", "0 ... | a 0 | a 3", "0 ... | A 0", "0 ... | a/b 0", "0 ... | abcdefghijklm 0", "0 ... | a -1", "0 ... | a 201", "0 ..a | a 0 0+1@2", "0 ..a | a 1 1+1@2", "0 .aa | a 2 1+2@1", "0 .aa | a 9 0+1@1 1+1@2", "0 .aa | a 9 3+1@1 1+1@2",
		"0 .aa | a 9 0+2@1 1+1@2", "0 .aa | a 9 0+0@1", "0 .aa | a 9 0+1@-1", "0 .aa | a 9 0+1@400", "0 .aa | a 9 -1+1@1", "0 ... | a 0 | b 0 | c 201", "0 ... | a 0 | b -1 | c 2", "0 ... | a 0 | c 0 | b 0", "0 ..." + strings.Repeat(" | a 0", 13),
		"0 ... | a 0 | b 0 | c 0 | d 0 | e 0 | f 0 | g 0 | h 0 | i 0 | j 0 | k 0 | l 0 | m 0",
	} {
		l[text] = systemIn(text)
	}
	for what, f := range badFrees() {
		l["Room: "+what] = impl.System{Room: f}
		l["Room: "+what+", and files"] = impl.System{Room: f, Files: systemIn("0 . | a 1 0+1@1 | b 2").Files}
	}
	for what, m := range badMaps() {
		l["map: "+what] = impl.System{Room: freeIn("..x"), Files: []impl.Held{{Name: "a", Size: 200, Map: m}}}
	}
	for _, n := range oddNumbers() {
		if n < 0 || n > 3 {
			s := systemIn("0 ..a | a 1 0+1@2")
			s.Head = n
			l[fmt.Sprint("Head ", n)] = s
		}
		if n < 1 || n > 200 {
			s := systemIn("0 ..a | a 1 0+1@2")
			s.Files[0].Size = n
			l[fmt.Sprint("Size ", n)] = s
		}
	}
	return l
}

func wantSystemRefused(t *testing.T, s impl.System) {
	t.Helper()
	if impl.GoodSystem(s) {
		t.Fatalf("%v is good", s)
	}
	if owners, ok := impl.OwnersOf(s); ok || len(owners) != 0 {
		t.Fatalf("OwnersOf of %v: got %v %v, want the zero answer", s, owners, ok)
	}
	if is, ok := impl.CheckSystem(s); ok || is {
		t.Fatalf("CheckSystem of %v: got %v %v, want the zero answer", s, is, ok)
	}
	for _, name := range []string{"a", "b", "z", "", "A"} {
		for _, n := range []int{0, 1, 199, -1, 200, math.MaxInt, math.MinInt} {
			got, ok := impl.WriteFile(s, name, n, 1)
			wantNoSystem(t, "WriteFile", got, ok)
			got, ok = impl.WriteFile(s, name, 0, n)
			wantNoSystem(t, "WriteFile", got, ok)
			got, ok = impl.CutFile(s, name, n)
			wantNoSystem(t, "CutFile", got, ok)
		}
		got, ok := impl.RemoveFile(s, name)
		wantNoSystem(t, "RemoveFile", got, ok)
		wantNotUsedBy(t, s, name)
	}
}

func TestBadSystemsAreRefused(t *testing.T) {
	for what, s := range badSystems() {
		if goodSystemByTrial(s) {
			t.Fatalf("%s: good by trial", what)
		}
		held := copySystem(s)
		wantSystemRefused(t, s)
		if !sameSystem(s, held) {
			t.Fatalf("%s: a refusal wrote into it", what)
		}
	}
}

// checkGoodSystem: what is good is told as its blocks are, all else is refused.
func checkGoodSystem(t *testing.T, s impl.System) bool {
	t.Helper()
	good := goodSystemByTrial(s)
	if impl.GoodSystem(s) != good {
		t.Fatalf("GoodSystem of %v: got %v", s, !good)
	}
	if !good {
		wantSystemRefused(t, s)
		return false
	}
	e := estateOf(s)
	if !sameSystem(e.laid(), s) {
		t.Fatalf("%v is laid out as %v", s, e.laid())
	}
	checkEstate(t, e)
	return true
}

// changedSystems differ from a system in one number, one name, one extent, one piece or one file.
func changedSystems(s impl.System) []impl.System {
	var l []impl.System
	change := func(by func(c *impl.System)) {
		c := copySystem(s)
		by(&c)
		l = append(l, c)
	}
	for _, n := range []int{-2, -1, 1, 2, 400, math.MaxInt, math.MinInt} {
		change(func(c *impl.System) { c.Head += n })
		change(func(c *impl.System) { c.Room.Blocks += n })
	}
	change(func(c *impl.System) { c.Room.BySize = nil })
	change(func(c *impl.System) { c.Room = impl.Free{Blocks: c.Room.Blocks} })
	for block := range s.Room.Blocks {
		e := estateOf(s)
		e.free[block] = !e.free[block]
		change(func(c *impl.System) { c.Room = freeOf(e.free) })
	}
	for i, f := range s.Files {
		for _, size := range []int{-1, 0, 1, 199, 200, 201, f.Size - 1, f.Size + 1, math.MaxInt, math.MinInt} {
			change(func(c *impl.System) { c.Files[i].Size = size })
		}
		for _, name := range []string{"", "-", "a", "aa", "b", "zzzzzzzzzzzz", "zzzzzzzzzzzzz", "A", "a/b", f.Name + "-"} {
			change(func(c *impl.System) { c.Files[i].Name = name })
		}
		for _, m := range changedMaps(f.Map) {
			change(func(c *impl.System) { c.Files[i].Map = m })
		}
		change(func(c *impl.System) { c.Files = slices.Delete(c.Files, i, i+1) })
		change(func(c *impl.System) { c.Files = slices.Insert(c.Files, i, c.Files[i]) })
		change(func(c *impl.System) { c.Files[i], c.Files[0] = c.Files[0], c.Files[i] })
		change(func(c *impl.System) { c.Files[i].Map, c.Files[0].Map = c.Files[0].Map, c.Files[i].Map })
	}
	change(func(c *impl.System) { c.Files = append(c.Files, impl.Held{}) })
	change(func(c *impl.System) { c.Files = append(c.Files, heldIn("zz 1 0+1@0")) })
	return l
}

func TestGoodSystemsAreWhatTheWordsSay(t *testing.T) {
	var good, right tally
	for _, text := range goodSystemTexts() {
		wantGoodSystem(t, text, systemIn(text), true)
		for _, one := range changedSystems(systemIn(text)) {
			good.count(checkGoodSystem(t, one))
			if goodSystemByTrial(one) {
				right.count(estateOf(one).isRight())
			}
		}
	}
	good.wantBoth(t, 300, 1000)
	right.wantBoth(t, 30, 200)
}

// Steps on what is good and not right are refused, or done as the words say.
func TestStepsOnChangedSystems(t *testing.T) {
	for _, text := range goodSystemTexts() {
		for i, one := range changedSystems(systemIn(text)) {
			if !goodSystemByTrial(one) {
				continue
			}
			e := estateOf(one)
			for _, name := range []string{"a", "b", "e"} {
				checkWriteFile(t, e, name, i%5, 1+i%3)
				checkCutFile(t, e, name, i%4)
				checkRemoveFile(t, e, name)
			}
		}
	}
}

func TestOddNumbersInSystems(t *testing.T) {
	for _, n := range oddNumbers() {
		for _, m := range []int{0, 1, 2, -1, 400, math.MaxInt, math.MinInt, n, n - 1, n + 1} {
			got, ok := impl.NewSystem(n, m)
			if n < 1 || n > 400 || m < 0 || m > n {
				wantNoSystem(t, "NewSystem", got, ok)
			} else {
				e := estate{head: m, free: slices.Concat(make([]bool, m), slices.Repeat([]bool{true}, n-m))}
				wantSystem(t, "NewSystem", got, ok, e.laid())
			}
		}
		for _, text := range goodSystemTexts() {
			e := estateIn(text)
			for _, m := range []int{0, 1, -1, math.MaxInt, math.MinInt, n} {
				for _, name := range []string{"a", "e"} {
					checkWriteFile(t, e, name, n, m)
					checkWriteFile(t, e, name, m, n)
				}
			}
			checkCutFile(t, e, "a", n)
			checkCutFile(t, e, "e", n)
		}
	}
}

func spoiltHeld() impl.Held {
	return impl.Held{Name: "spoilt", Size: -9, Map: mapIn("-9+-9@-9*")}
}

// roomySystem has room behind each of its lists, with what is none of the list in it.
func roomySystem(text string) impl.System {
	s := systemIn(text)
	s.Room.ByPlace = withRoom(s.Room.ByPlace, extents(77, 7, 78, 8)...)
	s.Room.BySize = withRoom(s.Room.BySize, extents(77, 7, 78, 8)...)
	for i, f := range s.Files {
		s.Files[i].Map.Pieces = withRoom(f.Map.Pieces, piece("190+7@300"), piece("197+2@320*"))
	}
	s.Files = withRoom(s.Files, impl.Held{Name: "zzz", Size: 77}, impl.Held{Name: "zzzz", Size: 78})
	return s
}

func piecesOfSystem(s impl.System) [][]impl.Piece {
	var l [][]impl.Piece
	for _, f := range s.Files {
		l = append(l, f.Map.Pieces)
	}
	return l
}

// wantRoomySystem: no list was written into, also behind its length.
func wantRoomySystem(t *testing.T, what string, s impl.System, text string) {
	t.Helper()
	fresh := roomySystem(text)
	if len(s.Files) != len(fresh.Files) || !slices.EqualFunc(wholeOf(s.Files), wholeOf(fresh.Files), sameHeld) {
		t.Fatalf("%s: written into: %v", what, wholeOf(s.Files))
	}
	wantAsFresh(t, what, listsOfFree(s.Room), listsOfFree(fresh.Room))
	wantAsFresh(t, what, piecesOfSystem(s), piecesOfSystem(fresh))
}

// wantSystemApart: each list of an answer is its own.
func wantSystemApart(t *testing.T, what string, s impl.System, text string, answer impl.System) {
	t.Helper()
	for _, f := range wholeOf(answer.Files) {
		if strings.HasPrefix(f.Name, "zzz") {
			t.Fatalf("%s: a file from behind a length", what)
		}
	}
	wantRoomySystem(t, what, s, text)
	held, pieces := copySystem(answer), piecesOfSystem(s)
	spoil(s.Files, spoiltHeld())
	if !sameSystem(answer, held) {
		t.Fatalf("%s, the files of the argument spoilt: got %v, want %v", what, answer, held)
	}
	copy(s.Files[:cap(s.Files)], wholeOf(roomySystem(text).Files))
	for i, l := range pieces {
		s.Files[i].Map.Pieces = l
	}
	piecesOfAnswer := piecesOfSystem(answer)
	spoil(answer.Files, spoiltHeld())
	wantRoomySystem(t, what+", the files of the answer spoilt", s, text)
	fresh := roomySystem(text)
	wantListsApart(t, what, listsOfFree(s.Room), listsOfFree(fresh.Room), listsOfFree(answer.Room), extent(-9, -9))
	wantListsApart(t, what, pieces, piecesOfSystem(fresh), piecesOfAnswer, piece("-9+-9@-9*"))
}

// stepsOnSystems are done to some of the good systems and refused to others.
func stepsOnSystems() map[string]func(s impl.System) (impl.System, bool) {
	l := map[string]func(s impl.System) (impl.System, bool){}
	for _, name := range []string{"a", "b", "c", "e"} {
		for _, x := range [][2]int{{0, 1}, {0, 2}, {1, 1}, {0, 3}, {4, 3}} {
			l[fmt.Sprint("WriteFile ", name, x)] = func(s impl.System) (impl.System, bool) { return impl.WriteFile(s, name, x[0], x[1]) }
		}
		if name == "e" {
			break
		}
		for size := range 2 {
			l[fmt.Sprint("CutFile ", name, size)] = func(s impl.System) (impl.System, bool) { return impl.CutFile(s, name, size) }
		}
		l["RemoveFile "+name] = func(s impl.System) (impl.System, bool) { return impl.RemoveFile(s, name) }
		l["CutFile to its Size "+name] = func(s impl.System) (impl.System, bool) {
			at := slices.IndexFunc(s.Files, func(f impl.Held) bool { return f.Name == name })
			if at < 0 {
				return impl.System{}, false
			}
			return impl.CutFile(s, name, s.Files[at].Size)
		}
	}
	return l
}

func TestSystemAnswersAreNewMemory(t *testing.T) {
	told := map[string]int{}
	for _, text := range goodSystemTexts() {
		for name, step := range stepsOnSystems() {
			plain, isPlain := step(systemIn(text))
			s := roomySystem(text)
			got, ok := step(s)
			if ok != isPlain || !sameSystem(got, plain) {
				t.Fatalf("%s of %s: what lies behind a length counts: got %v %v", name, text, got, ok)
			}
			wantRoomySystem(t, name, s, text)
			if ok {
				told[name]++
				wantSystemApart(t, name+" of "+text, s, text, got)
			}
		}
	}
	for name := range stepsOnSystems() {
		if told[name] < 2 {
			t.Errorf("%s told true %d times", name, told[name])
		}
	}
}

func TestQuestionsWriteIntoNoSystem(t *testing.T) {
	for _, text := range goodSystemTexts() {
		s := roomySystem(text)
		want := estateIn(text).owners()
		for range 2 {
			if !impl.GoodSystem(s) {
				t.Fatalf("%s is not good", text)
			}
			wantOwners(t, s, want)
			wantChecked(t, s, estateIn(text).isRight())
			wantNotUsedBy(t, s, "zzz")
			for _, f := range systemIn(text).Files {
				many, _, _ := impl.MapSize(f.Map)
				wantUsedBy(t, s, f.Name, many)
			}
			owners, _ := impl.OwnersOf(s)
			spoil(owners, -9)
			wantRoomySystem(t, "asked", s, text)
		}
	}
}

func TestNewSystemsShareNothing(t *testing.T) {
	for range 2 {
		s, ok := impl.NewSystem(9, 2)
		wantSystem(t, "NewSystem", s, ok, systemIn("2 ##......."))
		spoil(s.Room.ByPlace, extent(-9, -9))
		if !slices.Equal(s.Room.BySize, extents(2, 7)) {
			t.Fatalf("the lists of Room share memory: %v", s.Room.BySize)
		}
		spoil(s.Room.BySize, extent(-9, -9))
	}
}

// What is not good by its length alone is not made good by what lies behind it, nor the other way.
func TestListsOfSystemsEndAtTheirLength(t *testing.T) {
	full := manyHeld(13).laid()
	wantGoodSystem(t, "13 files", full, false)
	full.Files = full.Files[:12]
	wantGoodSystem(t, "12 files, and one behind them", full, true)
	got, ok := impl.WriteFile(full, "b", 0, 1)
	wantNoSystem(t, "one file more", got, ok)
	s := systemIn("0 .a. | a 2 0+1@1 1+1@5")
	wantOwned(t, s, ".f.")
	s.Files[0].Size = 1
	wantGoodSystem(t, "a block at Size", s, false)
	s.Files[0].Map.Pieces = s.Files[0].Map.Pieces[:1]
	wantGoodSystem(t, "a block at Size behind the length", s, true)
	s = systemIn("0 .ab | a 1 0+1@1 | b 1 0+1@2")
	s.Files = s.Files[:1]
	wantOwned(t, s, ".fn")
	wantNotUsedBy(t, s, "b")
	s.Files = s.Files[:0]
	wantOwned(t, s, ".nn")
}

// Steps from one system do not meet in its lists.
func TestTwoStepsFromOneSystem(t *testing.T) {
	text := "1 #aa.b.. | a 2 0+2@1 | b 1 0+1@4"
	s := roomySystem(text)
	one, okOne := impl.WriteFile(s, "a", 2, 1)
	two, okTwo := impl.WriteFile(s, "a", 2, 2)
	three, okThree := impl.WriteFile(s, "c", 0, 1)
	four, okFour := impl.CutFile(s, "a", 1)
	five, okFive := impl.RemoveFile(s, "a")
	wantSystem(t, "the first", one, okOne, systemIn("1 #aaab.. | a 3 0+3@1 | b 1 0+1@4"))
	wantSystem(t, "the second", two, okTwo, systemIn("1 #aa.baa | a 4 0+2@1 2+2@5 | b 1 0+1@4"))
	wantSystem(t, "the third", three, okThree, systemIn("1 #aacb.. | a 2 0+2@1 | b 1 0+1@4 | c 1 0+1@3"))
	wantSystem(t, "the fourth", four, okFour, systemIn("1 #a..b.. | a 1 0+1@1 | b 1 0+1@4"))
	wantSystem(t, "the fifth", five, okFive, systemIn("1 #...b.. | b 1 0+1@4"))
	spoil(one.Files[1].Map.Pieces, piece("-9+-9@-9*"))
	spoil(one.Files, spoiltHeld())
	spoil(three.Room.ByPlace, extent(-9, -9))
	spoil(five.Room.BySize, extent(-9, -9))
	wantSystem(t, "the second, others spoilt", two, okTwo, systemIn("1 #aa.baa | a 4 0+2@1 2+2@5 | b 1 0+1@4"))
	wantRoomySystem(t, "all five", s, text)
}

func TestSystemsAnswerTheSameEachTime(t *testing.T) {
	s := steps(1799)
	e := someEstate(&s, 300, 5)
	name := e.names()[0]
	written, okWritten := impl.WriteFile(e.laid(), name, 20, 100)
	cut, okCut := impl.CutFile(e.laid(), name, 1)
	owners, _ := impl.OwnersOf(e.laid())
	for range 30 {
		got, ok := impl.WriteFile(e.laid(), name, 20, 100)
		if ok != okWritten || !sameSystem(got, written) {
			t.Fatalf("WriteFile: got %v %v, want %v", got, ok, written)
		}
		got, ok = impl.CutFile(e.laid(), name, 1)
		if ok != okCut || !sameSystem(got, cut) {
			t.Fatalf("CutFile: got %v %v, want %v", got, ok, cut)
		}
		wantOwners(t, e.laid(), owners)
	}
}
