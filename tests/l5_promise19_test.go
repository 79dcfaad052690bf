package tests

import (
	"math"
	"slices"
	"testing"

	"loop.example/g00261/impl"
)

// placed is free room by place, its sizes as they should be.
func placed(blocks int, l ...impl.Extent) impl.Free {
	return impl.Free{Blocks: blocks, ByPlace: l, BySize: sizesOf(l)}
}

// badFrees are not as said, each in one way.
func badFrees() map[string]impl.Free {
	a, b, c := extent(1, 3), extent(6, 2), extent(9, 2)
	tooMany := everyOther(impl.MaxExtents + 1)
	sizesTooMany := everyOther(impl.MaxExtents)
	sizesTooMany.BySize = tooMany.BySize
	l := map[string]impl.Free{
		"nothing": {}, "no blocks": placed(0), "less than none": placed(-1), "least": placed(math.MinInt),
		"too many blocks": placed(impl.MaxBlocks+1, a), "most": placed(math.MaxInt, a),
		"too many extents": tooMany, "too many sizes": sizesTooMany,
		"touching":       placed(20, a, extent(4, 2)),
		"touching at 0":  placed(20, extent(0, 1), extent(1, 1)),
		"overlapping":    placed(20, a, extent(3, 2)),
		"one in another": placed(20, extent(1, 9), a),
		"falling":        placed(20, b, a), "twice": placed(20, a, a),
		"beyond by one": placed(10, a, b, c), "beyond": placed(5, a, b), "begins at the end": placed(6, a, b),
		"below 0": placed(20, extent(-1, 3)), "far below": placed(20, extent(math.MinInt, 3)),
		"long 0": placed(20, a, extent(6, 0)), "only long 0": placed(20, impl.Extent{}), "less long": placed(20, a, extent(6, -1)),
		"least long": placed(20, extent(6, math.MinInt)), "wraps round": placed(20, extent(6, math.MaxInt)),
		"wraps to little": placed(20, extent(math.MaxInt, math.MaxInt)), "wraps to more": placed(20, extent(math.MaxInt, 1)),
		"wraps below": placed(20, extent(math.MinInt, math.MinInt)), "wraps to 0": placed(20, extent(math.MinInt, math.MaxInt), a),
	}
	for what, sizes := range map[string][]impl.Extent{
		"no sizes": nil, "a size is missing": {b, c}, "another is missing": {b, a}, "by place": {a, b, c}, "longest ahead": {a, c, b},
		"by size, not by place": {c, b, a}, "another size": {b, c, {At: 1, Long: 4}}, "another place": {b, c, {At: 2, Long: 3}},
		"one twice": {b, b, a}, "one more": {b, c, a, a}, "one less long": {{At: 6, Long: 1}, c, a},
	} {
		l[what] = impl.Free{Blocks: 20, ByPlace: []impl.Extent{a, b, c}, BySize: sizes}
	}
	l["sizes of nothing"] = impl.Free{Blocks: 20, BySize: []impl.Extent{a}}
	return l
}

// The room that the bad ones differ from is good.
func TestTheRightOrderIsGood(t *testing.T) {
	a, b, c := extent(1, 3), extent(6, 2), extent(9, 2)
	for _, f := range []impl.Free{
		{Blocks: 20, ByPlace: []impl.Extent{a, b, c}, BySize: []impl.Extent{b, c, a}},
		{Blocks: 11, ByPlace: []impl.Extent{a, b, c}, BySize: []impl.Extent{b, c, a}},
		{Blocks: impl.MaxBlocks, ByPlace: []impl.Extent{a, b, c}, BySize: []impl.Extent{b, c, a}},
		placed(4, a), placed(1, extent(0, 1)), placed(20, extent(0, 1), extent(2, 18)),
	} {
		if !impl.GoodFree(f) {
			t.Errorf("%#v is not good", f)
		}
	}
}

func TestBadFreeRoomIsRefused(t *testing.T) {
	for what, f := range badFrees() {
		if impl.GoodFree(f) {
			t.Errorf("%s: %#v is good", what, f)
		}
		for _, how := range []int{0, 1, 2, 3, 4, 5} {
			wantNoneTaken(t, f, 1, how, 0)
		}
		for _, x := range extents(0, 1, 1, 1, 1, 3, 6, 2, 15, 1, 0, 0) {
			got, ok := impl.TakeExact(f, x)
			wantNoFree(t, what, got, ok)
			got, ok = impl.GiveRoom(f, x)
			wantNoFree(t, what, got, ok)
		}
		if many, longest, ok := impl.RoomIn(f); ok || many != 0 || longest != 0 {
			t.Errorf("%s: RoomIn: got %d %d %v", what, many, longest, ok)
		}
		for _, at := range []int{0, 1, 6, 15, -1} {
			if is, ok := impl.IsFreeAt(f, at); ok || is {
				t.Errorf("%s: IsFreeAt: got %v %v", what, is, ok)
			}
		}
		if l, ok := impl.UsedExtents(f); ok || len(l) != 0 {
			t.Errorf("%s: UsedExtents: got %v %v", what, l, ok)
		}
	}
}

func TestOddNumbersAreNoRoom(t *testing.T) {
	good := freeIn("x..x....xx")
	for _, n := range oddNumbers() {
		if got, ok := impl.NewFree(n); ok != (n >= 1 && n <= impl.MaxBlocks) || ok != impl.GoodFree(got) {
			t.Errorf("NewFree of %d: got %#v %v", n, got, ok)
		}
		if is, ok := impl.IsFreeAt(good, n); ok != (n >= 0 && n < 10) || is && !ok {
			t.Errorf("IsFreeAt %d: got %v %v", n, is, ok)
		}
		for _, how := range ways() {
			if n < 1 || n > 4 {
				wantNoneTaken(t, good, n, how, 0)
			}
			if n < 0 || n > 9 {
				wantNoneTaken(t, good, 1, how, n)
			}
		}
		if n < 1 || n > 4 {
			wantNoneTaken(t, good, 1, n, 0)
		}
		for _, m := range oddNumbers() {
			checkOddExtent(t, good, extent(n, m))
		}
	}
}

// checkOddExtent: an extent is taken or given only where it lies within, and room of it alone is good only there.
func checkOddExtent(t *testing.T, good impl.Free, x impl.Extent) {
	t.Helper()
	within := x.At >= 0 && x.At < 10 && x.Long >= 1 && x.Long <= 10-x.At
	if impl.GoodFree(placed(10, x)) != within {
		t.Fatalf("GoodFree of %v alone: %v", x, !within)
	}
	if within {
		return
	}
	got, ok := impl.TakeExact(good, x)
	wantNoFree(t, "TakeExact", got, ok)
	got, ok = impl.GiveRoom(good, x)
	wantNoFree(t, "GiveRoom", got, ok)
}

// roomyFree has room behind its lists, with extents in it that are none of its.
func roomyFree() impl.Free {
	f := freeIn("x...x.x..x")
	behind := extents(77, 7, 78, 8, 79, 9)
	f.ByPlace = withRoom(f.ByPlace, behind...)
	f.BySize = withRoom(f.BySize, behind...)
	return f
}

func listsOfFree(f impl.Free) [][]impl.Extent {
	return [][]impl.Extent{f.ByPlace, f.BySize}
}

// wantRoomyFree also looks behind the lists' length.
func wantRoomyFree(t *testing.T, what string, f impl.Free) {
	t.Helper()
	wantAsFresh(t, what, listsOfFree(f), listsOfFree(roomyFree()))
}

func wantFreeApart(t *testing.T, what string, f impl.Free, answer impl.Free) {
	t.Helper()
	wantListsApart(t, what, listsOfFree(f), listsOfFree(roomyFree()), listsOfFree(answer), extent(-9, -9))
}

func TestFreeRoomAnswersAreNewMemory(t *testing.T) {
	for _, how := range ways() {
		for near := range 10 {
			for long := 1; long <= 3; long++ {
				f := roomyFree()
				got, _, ok := impl.TakeRoom(f, long, how, near)
				if !ok {
					t.Fatalf("TakeRoom of %d by %d near %d", long, how, near)
				}
				wantFreeApart(t, "TakeRoom", f, got)
			}
		}
	}
	for at := range 10 {
		for long := 1; long <= 3; long++ {
			f := roomyFree()
			if got, ok := impl.TakeExact(f, extent(at, long)); ok {
				wantFreeApart(t, "TakeExact", f, got)
			}
			if got, ok := impl.GiveRoom(f, extent(at, long)); ok {
				wantFreeApart(t, "GiveRoom", f, got)
			}
			wantRoomyFree(t, "taken or refused", f)
		}
	}
}

func TestNewFreeSharesNothing(t *testing.T) {
	a, _ := impl.NewFree(7)
	a.ByPlace[0] = extent(9, 9)
	if a.BySize[0] != extent(0, 7) {
		t.Error("the two lists share memory")
	}
	a.BySize[0] = extent(9, 9)
	b, ok := impl.NewFree(7)
	wantFree(t, "NewFree after another was spoilt", b, ok, freeIn("......."))
}

func TestQuestionsWriteIntoNoFreeRoom(t *testing.T) {
	f := roomyFree()
	impl.GoodFree(f)
	impl.RoomIn(f)
	for at := -1; at <= 10; at++ {
		impl.IsFreeAt(f, at)
	}
	wantRoomyFree(t, "asked", f)
	used, ok := impl.UsedExtents(f)
	want := extents(0, 1, 4, 1, 6, 1, 9, 1)
	wantExtents(t, "UsedExtents", used, ok, want)
	spoil(used, extent(-9, -9))
	wantRoomyFree(t, "the used ones spoilt", f)
	used, ok = impl.UsedExtents(f)
	wantExtents(t, "UsedExtents again", used, ok, want)
	for _, bad := range badFrees() {
		held := impl.Free{Blocks: bad.Blocks, ByPlace: slices.Clone(bad.ByPlace), BySize: slices.Clone(bad.BySize)}
		impl.GoodFree(bad)
		impl.TakeRoom(bad, 1, impl.PickFirst, 0)
		impl.TakeExact(bad, extent(1, 1))
		impl.GiveRoom(bad, extent(0, 1))
		impl.UsedExtents(bad)
		if !sameFree(bad, held) {
			t.Errorf("%#v was %#v", bad, held)
		}
	}
}

// Two takes from one room do not meet in the memory behind its lists.
func TestTwoTakesFromOneRoom(t *testing.T) {
	f := roomyFree()
	a, okA := impl.TakeExact(f, extent(2, 1))
	b, okB := impl.GiveRoom(f, extent(9, 1))
	wantFree(t, "the one", a, okA, freeIn("x.x.x.x..x"))
	wantFree(t, "the other", b, okB, freeIn("x...x.x..."))
}
