package tests

import (
	"slices"
	"testing"

	"loop.example/g00261/impl"
)

// blocksIn reads blocks from a text: '.' is free, all else is used.
func blocksIn(s string) []bool {
	l := make([]bool, len(s))
	for i := range len(s) {
		l[i] = s[i] == '.'
	}
	return l
}

func freeIn(s string) impl.Free {
	return freeOf(blocksIn(s))
}

func wantTaken(t *testing.T, from string, long int, how int, near int, at int, left string) {
	t.Helper()
	got, place, ok := impl.TakeRoom(freeIn(from), long, how, near)
	if place != at {
		t.Errorf("TakeRoom of %d by %d near %d from %q: got %d, want %d", long, how, near, from, place, at)
	}
	wantFree(t, "TakeRoom", got, ok, freeIn(left))
}

func wantNoneTaken(t *testing.T, f impl.Free, long int, how int, near int) {
	t.Helper()
	got, at, ok := impl.TakeRoom(f, long, how, near)
	wantNoFree(t, "TakeRoom", got, ok)
	if at != 0 {
		t.Errorf("TakeRoom of %d by %d near %d is refused, and tells %d", long, how, near, at)
	}
}

func wantGiven(t *testing.T, to string, at int, long int, now string) {
	t.Helper()
	got, ok := impl.GiveRoom(freeIn(to), extent(at, long))
	wantFree(t, "GiveRoom to "+to, got, ok, freeIn(now))
}

func TestConstantsOfFreeRoom(t *testing.T) {
	if impl.MaxBlocks != 400 || impl.MaxExtents != 60 {
		t.Error("limits")
	}
	if !slices.Equal(ways(), []int{1, 2, 3, 4}) {
		t.Error("ways to pick")
	}
}

func TestNewFreeIsAllFree(t *testing.T) {
	for _, blocks := range []int{1, 2, 20, impl.MaxBlocks - 1, impl.MaxBlocks} {
		got, ok := impl.NewFree(blocks)
		all := []impl.Extent{{At: 0, Long: blocks}}
		wantFree(t, "NewFree", got, ok, impl.Free{Blocks: blocks, ByPlace: all, BySize: all})
		if !impl.GoodFree(got) {
			t.Errorf("%d blocks are not good", blocks)
		}
		wantRoom(t, got, blocks, blocks)
	}
	for _, blocks := range []int{0, -1, impl.MaxBlocks + 1} {
		got, ok := impl.NewFree(blocks)
		wantNoFree(t, "NewFree", got, ok)
	}
}

func TestNoExtentsAreGood(t *testing.T) {
	for _, f := range []impl.Free{{Blocks: 1}, {Blocks: impl.MaxBlocks}, {Blocks: 5, ByPlace: []impl.Extent{}, BySize: []impl.Extent{}}} {
		if !impl.GoodFree(f) {
			t.Errorf("%#v is not good", f)
		}
		wantRoom(t, f, 0, 0)
		used, ok := impl.UsedExtents(f)
		wantExtents(t, "UsedExtents", used, ok, []impl.Extent{{At: 0, Long: f.Blocks}})
		for _, how := range ways() {
			wantNoneTaken(t, f, 1, how, 0)
		}
	}
}

// everyOther is so many extents of one block, with one used block between them.
func everyOther(many int) impl.Free {
	f := impl.Free{Blocks: impl.MaxBlocks}
	for i := range many {
		f.ByPlace = append(f.ByPlace, extent(1+2*i, 1))
	}
	f.BySize = slices.Clone(f.ByPlace)
	return f
}

func TestSoManyExtentsAreGood(t *testing.T) {
	if !impl.GoodFree(everyOther(impl.MaxExtents)) {
		t.Error("MaxExtents are not good")
	}
	if impl.GoodFree(everyOther(impl.MaxExtents + 1)) {
		t.Error("one more is good")
	}
}

// Used extents are one more than free ones can be: the limit is that of the free ones.
func TestUsedExtentsMayBeMoreThanFreeOnes(t *testing.T) {
	f := everyOther(impl.MaxExtents)
	used, ok := impl.UsedExtents(f)
	if !ok || len(used) != impl.MaxExtents+1 {
		t.Fatalf("got %d %v", len(used), ok)
	}
	if used[0] != extent(0, 1) || used[60] != extent(120, 280) {
		t.Error(used)
	}
}

func TestEachWayPicksItsOwn(t *testing.T) {
	from := "x...x.....x..x.....x..x"
	wantTaken(t, from, 2, impl.PickFirst, 0, 1, "xxx.x.....x..x.....x..x")
	wantTaken(t, from, 2, impl.PickBest, 0, 11, "x...x.....xxxx.....x..x")
	wantTaken(t, from, 2, impl.PickWorst, 0, 14, "x...x.....x..xxx...x..x")
	wantTaken(t, from, 2, impl.PickNear, 7, 7, "x...x..xx.x..x.....x..x")
	wantTaken(t, from, 4, impl.PickFirst, 22, 5, "x...xxxxx.x..x.....x..x")
	wantTaken(t, from, 4, impl.PickBest, 22, 5, "x...xxxxx.x..x.....x..x")
	wantTaken(t, from, 4, impl.PickWorst, 22, 14, "x...x.....x..xxxxx.x..x")
	wantTaken(t, from, 4, impl.PickNear, 22, 15, "x...x.....x..x.xxxxx..x")
}

func TestTheWholeOfAnExtentIsTaken(t *testing.T) {
	for _, how := range ways() {
		wantTaken(t, "x...x", 3, how, 4, 1, "xxxxx")
		wantTaken(t, ".", 1, how, 0, 0, "x")
	}
	wantTaken(t, "..x...x.", 3, impl.PickFirst, 0, 3, "..xxxxx.")
	wantTaken(t, "..x...x.", 1, impl.PickBest, 0, 7, "..x...xx")
}

func TestAWayThatIsNoneIsRefused(t *testing.T) {
	for _, how := range []int{0, 5, -1, 1 << 32, 1<<32 + 1} {
		wantNoneTaken(t, freeIn("......"), 1, how, 0)
	}
}

func TestNoRoomOfSuchALength(t *testing.T) {
	for _, how := range ways() {
		for _, long := range []int{0, -1, 4, 5, impl.MaxBlocks, impl.MaxBlocks + 1} {
			wantNoneTaken(t, freeIn("x...x...x"), long, how, 1)
		}
	}
}

// The near is asked for in each way, also where it is not looked at.
func TestNearIsWithin(t *testing.T) {
	for _, how := range ways() {
		wantNoneTaken(t, freeIn("......"), 1, how, -1)
		wantNoneTaken(t, freeIn("......"), 1, how, 6)
	}
	wantTaken(t, "......", 2, impl.PickNear, 0, 0, "xx....")
	wantTaken(t, "......", 2, impl.PickNear, 5, 4, "....xx")
	for _, near := range []int{0, 5} {
		for _, how := range []int{impl.PickFirst, impl.PickBest, impl.PickWorst} {
			wantTaken(t, "......", 2, how, near, 0, "xx....")
		}
	}
}

func TestNearPicksTheNearestPlace(t *testing.T) {
	wantTaken(t, "...xxx...", 1, impl.PickNear, 4, 2, "..xxxx...") // two as near: the one ahead
	wantTaken(t, "...xxx...", 1, impl.PickNear, 5, 6, "...xxxx..")
	wantTaken(t, "...xxx...", 1, impl.PickNear, 3, 2, "..xxxx...")
	wantTaken(t, "...xxxx..", 2, impl.PickNear, 4, 1, ".xxxxxx..") // two as near, by where they begin
	wantTaken(t, "........", 3, impl.PickNear, 4, 4, "....xxx.")   // inside
	wantTaken(t, "........", 3, impl.PickNear, 7, 5, ".....xxx")   // inside, too near the end
	wantTaken(t, ".....x..", 3, impl.PickNear, 7, 2, "..xxxx..")   // the one it is in is too short
	wantTaken(t, "....x...", 3, impl.PickNear, 3, 1, ".xxxx...")   // one ahead is as near as one behind
	wantTaken(t, ".....x....", 4, impl.PickNear, 4, 6, ".....xxxxx")
	wantTaken(t, "xxx..", 2, impl.PickNear, 0, 3, "xxxxx")
}

// Where the nearest place would make one extent too many the room is refused, though another place would do.
func TestTakenInTheMidstOfAFullOne(t *testing.T) {
	f := freeOf(fullBlocks(impl.MaxBlocks))
	wantNoneTaken(t, f, 1, impl.PickNear, f.ByPlace[7].At+1)
	got, ok := impl.TakeExact(f, extent(f.ByPlace[7].At+1, 1))
	wantNoFree(t, "TakeExact", got, ok)
	for _, how := range []int{impl.PickFirst, impl.PickBest, impl.PickWorst} {
		got, _, ok := impl.TakeRoom(f, 1, how, 0)
		if !ok || len(got.ByPlace) != impl.MaxExtents {
			t.Error(how, ok)
		}
	}
	for _, x := range []impl.Extent{{At: f.ByPlace[7].At, Long: 2}, {At: f.ByPlace[7].At + 1, Long: 2}, f.ByPlace[7]} {
		if _, ok := impl.TakeExact(f, x); !ok {
			t.Errorf("%v is not taken", x)
		}
	}
	oneLess, _ := impl.TakeExact(f, f.ByPlace[0])
	got, ok = impl.TakeExact(oneLess, extent(f.ByPlace[7].At+1, 1))
	if !ok || len(got.ByPlace) != impl.MaxExtents {
		t.Error("MaxExtents are not met exactly", ok)
	}
}

func TestTakeExactOfWhatIsNotWhollyFree(t *testing.T) {
	f := freeIn("x..x...")
	for _, x := range extents(0, 1, 0, 2, 1, 3, 2, 3, 3, 1, 1, 6, 0, 7, 4, 4, 7, 1, 8, 1, 6, 2, -1, 2, -1, 1, 4, 0, 4, -1, 5, 1<<40) {
		got, ok := impl.TakeExact(f, x)
		wantNoFree(t, "TakeExact", got, ok)
	}
	for x, left := range map[impl.Extent]string{extent(1, 1): "xx.x...", extent(2, 1): "x.xx...", extent(1, 2): "xxxx...", extent(4, 3): "x..xxxx", extent(5, 1): "x..x.x.", extent(6, 1): "x..x..x"} {
		got, ok := impl.TakeExact(f, x)
		wantFree(t, "TakeExact", got, ok, freeIn(left))
	}
}

func TestWhatIsGivenIsJoined(t *testing.T) {
	wantGiven(t, "..xxxxx..", 4, 1, "..xx.xx..")   // touches nothing
	wantGiven(t, "..xxxxx..", 2, 2, "....xxx..")   // one ahead
	wantGiven(t, "..xxxxx..", 5, 2, "..xxx....")   // one behind
	wantGiven(t, "..xxxxx..", 2, 5, ".........")   // both
	wantGiven(t, "x.xx.x.x", 2, 2, "x....x.x")     // others stay
	wantGiven(t, "xxxx", 0, 4, "....")             // all
	wantGiven(t, "xxxx", 0, 1, ".xxx")             // at the front
	wantGiven(t, "xxxx", 3, 1, "xxx.")             // at the end
	wantGiven(t, "x", 0, 1, ".")                   // the one there is
	wantGiven(t, ".x.x.x.x.", 3, 1, ".x...x.x.")   // of many
	wantGiven(t, "...x.x..x", 8, 1, "...x.x...")   // the last
	wantGiven(t, "...xx.xx..", 3, 2, "......xx..") // both, unlike long
}

func TestWhatIsFreeIsNotGiven(t *testing.T) {
	f := freeIn("xx.xxx..")
	for _, x := range extents(2, 1, 1, 2, 2, 2, 1, 3, 0, 8, 5, 2, 7, 1, 6, 2, 5, 3, 0, 3) {
		got, ok := impl.GiveRoom(f, x)
		wantNoFree(t, "GiveRoom", got, ok)
	}
	f = freeIn("....xxxx")
	for _, x := range extents(8, 1, 7, 2, 4, 5, -1, 1, -1, 2, 4, 0, 4, -1, 5, 0, 9, 1, 8, 0, 9, -2) {
		got, ok := impl.GiveRoom(f, x)
		wantNoFree(t, "GiveRoom beyond", got, ok)
	}
}

func TestGivenToAFullOne(t *testing.T) {
	f := everyOther(impl.MaxExtents)
	got, ok := impl.GiveRoom(f, extent(200, 1))
	wantNoFree(t, "one more", got, ok)
	got, ok = impl.GiveRoom(f, extent(121, 279))
	wantNoFree(t, "one more, up to the end", got, ok)
	got, ok = impl.GiveRoom(f, extent(120, 280))
	if !ok || len(got.ByPlace) != impl.MaxExtents || got.ByPlace[59] != extent(119, 281) {
		t.Error("joined with the last", got, ok)
	}
	got, ok = impl.GiveRoom(f, extent(2, 1))
	if !ok || len(got.ByPlace) != impl.MaxExtents-1 || got.BySize[58] != extent(1, 3) {
		t.Error("joined with two", got, ok)
	}
	got, ok = impl.GiveRoom(everyOther(impl.MaxExtents-1), extent(200, 1))
	if !ok || len(got.ByPlace) != impl.MaxExtents {
		t.Error("MaxExtents are not met exactly", got, ok)
	}
}

func TestIsFreeAtTheEdges(t *testing.T) {
	for s, want := range map[string][2]bool{"....": {true, true}, "xxxx": {false, false}, ".xxx": {true, false}, "xxx.": {false, true}} {
		f := freeIn(s)
		for i, at := range []int{0, 3} {
			if is, ok := impl.IsFreeAt(f, at); !ok || is != want[i] {
				t.Errorf("IsFreeAt %d of %q: got %v %v", at, s, is, ok)
			}
		}
		for _, at := range []int{-1, 4, 5} {
			if is, ok := impl.IsFreeAt(f, at); ok || is {
				t.Errorf("IsFreeAt %d of %q: got %v %v", at, s, is, ok)
			}
		}
	}
}

func TestUsedExtentsOfAllAndNone(t *testing.T) {
	for s, want := range map[string][]impl.Extent{
		".": nil, "....": nil, "x": extents(0, 1), "xxxx": extents(0, 4), "x..x": extents(0, 1, 3, 1), ".xx.": extents(1, 2), "xx.x.": extents(0, 2, 3, 1),
	} {
		got, ok := impl.UsedExtents(freeIn(s))
		wantExtents(t, "UsedExtents of "+s, got, ok, want)
	}
}

func TestRoomInTellsAllAndTheLongest(t *testing.T) {
	for s, want := range map[string][2]int{"xxx": {0, 0}, "...": {3, 3}, ".x..x.": {4, 2}, "...x.": {4, 3}, "x": {0, 0}, ".": {1, 1}} {
		wantRoom(t, freeIn(s), want[0], want[1])
	}
}
