package tests

import (
	"cmp"
	"slices"
	"testing"

	"loop.example/g00261/impl"
)

func extent(at int, long int) impl.Extent {
	return impl.Extent{At: at, Long: long}
}

// extents are made of two numbers each: where it is, how long it is.
func extents(numbers ...int) []impl.Extent {
	var l []impl.Extent
	for i := 0; i < len(numbers); i += 2 {
		l = append(l, extent(numbers[i], numbers[i+1]))
	}
	return l
}

// extentsOf are the longest runs of blocks that are as asked for.
func extentsOf(blocks []bool, is bool) []impl.Extent {
	var l []impl.Extent
	for i, b := range blocks {
		if b != is {
			continue
		}
		if i == 0 || blocks[i-1] != is {
			l = append(l, impl.Extent{At: i})
		}
		l[len(l)-1].Long++
	}
	return l
}

// sizesOf are extents by Long, then At.
func sizesOf(l []impl.Extent) []impl.Extent {
	out := slices.Clone(l)
	slices.SortFunc(out, func(a impl.Extent, b impl.Extent) int {
		return cmp.Or(cmp.Compare(a.Long, b.Long), cmp.Compare(a.At, b.At))
	})
	return out
}

// freeOf is the free room of blocks that are told one by one.
func freeOf(blocks []bool) impl.Free {
	l := extentsOf(blocks, true)
	return impl.Free{Blocks: len(blocks), ByPlace: l, BySize: sizesOf(l)}
}

// blocksOf asks for each block by IsFreeAt.
func blocksOf(t *testing.T, f impl.Free) []bool {
	t.Helper()
	out := make([]bool, f.Blocks)
	for i := range out {
		is, ok := impl.IsFreeAt(f, i)
		if !ok {
			t.Fatalf("IsFreeAt %d of %#v is refused", i, f)
		}
		out[i] = is
	}
	return out
}

// withBlocks has the blocks of an extent as told, the others as they were.
func withBlocks(blocks []bool, x impl.Extent, is bool) []bool {
	out := slices.Clone(blocks)
	for i := range x.Long {
		out[x.At+i] = is
	}
	return out
}

// allOf: each block of an extent is there, and as asked for.
func allOf(blocks []bool, x impl.Extent, is bool) bool {
	if x.Long < 1 || x.At < 0 {
		return false
	}
	for i := range x.Long {
		if x.At+i >= len(blocks) || blocks[x.At+i] != is {
			return false
		}
	}
	return true
}

func sameFree(a impl.Free, b impl.Free) bool {
	return a.Blocks == b.Blocks && slices.Equal(a.ByPlace, b.ByPlace) && slices.Equal(a.BySize, b.BySize)
}

func wantFree(t *testing.T, what string, got impl.Free, ok bool, want impl.Free) {
	t.Helper()
	if !ok || !sameFree(got, want) {
		t.Fatalf("%s: got %#v %v, want %#v", what, got, ok, want)
	}
}

func wantNoFree(t *testing.T, what string, got impl.Free, ok bool) {
	t.Helper()
	if ok || !sameFree(got, impl.Free{}) {
		t.Fatalf("%s: got %#v %v, want the zero answer", what, got, ok)
	}
}

func wantExtents(t *testing.T, what string, got []impl.Extent, ok bool, want []impl.Extent) {
	t.Helper()
	if !ok || !slices.Equal(got, want) {
		t.Fatalf("%s: got %v %v, want %v", what, got, ok, want)
	}
}

// placeByTrial tries each place from which on so many blocks are free.
func placeByTrial(blocks []bool, long int, how int, near int) (int, bool) {
	at, found := 0, false
	if how == impl.PickNear {
		for away := 0; away < len(blocks); away++ {
			for _, p := range []int{near - away, near + away} {
				if allOf(blocks, extent(p, long), true) {
					return p, true
				}
			}
		}
		return 0, false
	}
	best := 0
	for _, x := range extentsOf(blocks, true) {
		better := !found || how == impl.PickBest && x.Long < best || how == impl.PickWorst && x.Long >= best
		if x.Long >= long && better {
			at, best, found = x.At, x.Long, true
		}
	}
	return at, found
}

// checkTakeRoom holds TakeRoom against the trial, and gives back what it took.
func checkTakeRoom(t *testing.T, blocks []bool, long int, how int, near int) {
	t.Helper()
	f := freeOf(blocks)
	got, at, ok := impl.TakeRoom(f, long, how, near)
	place, found := placeByTrial(blocks, long, how, near)
	x := extent(place, long)
	if !found || len(extentsOf(withBlocks(blocks, x, false), true)) > impl.MaxExtents {
		wantNoFree(t, "TakeRoom", got, ok)
		if at != 0 {
			t.Fatalf("refused, and tells %d", at)
		}
		return
	}
	if at != place {
		t.Fatalf("TakeRoom of %d by %d near %d from %v: got %d, want %d", long, how, near, f.ByPlace, at, place)
	}
	wantFree(t, "TakeRoom", got, ok, freeOf(withBlocks(blocks, x, false)))
	checkTaken(t, f, got, x)
}

// checkTaken: what was taken was free and is not any more, the others are as they were, and given back it is as before.
func checkTaken(t *testing.T, before impl.Free, after impl.Free, x impl.Extent) {
	t.Helper()
	if !impl.GoodFree(after) {
		t.Fatalf("not good: %#v", after)
	}
	was, is := blocksOf(t, before), blocksOf(t, after)
	if !allOf(was, x, true) || !allOf(is, x, false) {
		t.Fatalf("%v was not free, or is yet: %v %v", x, was, is)
	}
	if !slices.Equal(withBlocks(is, x, true), was) {
		t.Fatalf("other blocks than those of %v changed: %v %v", x, was, is)
	}
	back, ok := impl.GiveRoom(after, x)
	wantFree(t, "given back", back, ok, before)
}

func checkTakeExact(t *testing.T, blocks []bool, x impl.Extent) {
	t.Helper()
	f := freeOf(blocks)
	got, ok := impl.TakeExact(f, x)
	if !allOf(blocks, x, true) || len(extentsOf(withBlocks(blocks, x, false), true)) > impl.MaxExtents {
		wantNoFree(t, "TakeExact", got, ok)
		return
	}
	wantFree(t, "TakeExact", got, ok, freeOf(withBlocks(blocks, x, false)))
	checkTaken(t, f, got, x)
}

func checkGiveRoom(t *testing.T, blocks []bool, x impl.Extent) {
	t.Helper()
	f := freeOf(blocks)
	got, ok := impl.GiveRoom(f, x)
	if !allOf(blocks, x, false) || len(extentsOf(withBlocks(blocks, x, true), true)) > impl.MaxExtents {
		wantNoFree(t, "GiveRoom", got, ok)
		return
	}
	wantFree(t, "GiveRoom", got, ok, freeOf(withBlocks(blocks, x, true)))
	if !impl.GoodFree(got) || !slices.Equal(blocksOf(t, got), withBlocks(blocks, x, true)) {
		t.Fatalf("GiveRoom of %v: got %#v", x, got)
	}
	again, ok := impl.TakeExact(got, x)
	wantFree(t, "taken again", again, ok, f)
}

// checkQuestions: what is told of free room is what its blocks tell.
func checkQuestions(t *testing.T, blocks []bool) {
	t.Helper()
	f := freeOf(blocks)
	if !impl.GoodFree(f) {
		t.Fatalf("not good: %#v", f)
	}
	if !slices.Equal(blocksOf(t, f), blocks) {
		t.Fatalf("IsFreeAt: got %v, want %v", blocksOf(t, f), blocks)
	}
	many, longest := 0, 0
	for _, x := range f.ByPlace {
		many, longest = many+x.Long, max(longest, x.Long)
	}
	wantRoom(t, f, many, longest)
	used, ok := impl.UsedExtents(f)
	wantExtents(t, "UsedExtents", used, ok, extentsOf(blocks, false))
}

func wantRoom(t *testing.T, f impl.Free, many int, longest int) {
	t.Helper()
	gotMany, gotLongest, ok := impl.RoomIn(f)
	if !ok || gotMany != many || gotLongest != longest {
		t.Fatalf("RoomIn of %#v: got %d %d %v, want %d %d", f, gotMany, gotLongest, ok, many, longest)
	}
}

// patterns are all ways in which so many blocks can be free.
func patterns(blocks int) [][]bool {
	l := make([][]bool, 1<<blocks)
	for bits := range l {
		l[bits] = make([]bool, blocks)
		for i := range blocks {
			l[bits][i] = bits>>i&1 == 1
		}
	}
	return l
}

func ways() []int {
	return []int{impl.PickFirst, impl.PickBest, impl.PickWorst, impl.PickNear}
}

// someBlocks are free in runs of about so many, and not in between.
func someBlocks(s *steps, blocks int, run int) []bool {
	out := make([]bool, blocks)
	for i := range out {
		out[i] = i > 0 && out[i-1]
		if s.below(run) == 0 {
			out[i] = !out[i]
		}
	}
	return out
}

// fullBlocks have MaxExtents extents of three free blocks, with one or two used ones between them.
func fullBlocks(blocks int) []bool {
	out := make([]bool, blocks)
	for i := range impl.MaxExtents {
		out = withBlocks(out, extent(1+5*i+i%2, 3), true)
	}
	return out
}

func TestFreeRoomOfFewBlocksInAllWays(t *testing.T) {
	for many := 1; many <= 8; many++ {
		for _, blocks := range patterns(many) {
			checkQuestions(t, blocks)
			for at := -1; at <= many; at++ {
				for long := -1; long <= many+1; long++ {
					checkTakeExact(t, blocks, extent(at, long))
					checkGiveRoom(t, blocks, extent(at, long))
				}
			}
		}
	}
}

func TestRoomIsTakenFromFewBlocksInAllWays(t *testing.T) {
	for many := 1; many <= 9; many++ {
		for _, blocks := range patterns(many) {
			for near := range many {
				for long := 1; long <= many+1; long++ {
					for _, how := range ways() {
						checkTakeRoom(t, blocks, long, how, near)
					}
				}
			}
		}
	}
}

func TestFreeRoomOfManyBlocks(t *testing.T) {
	s := steps(5)
	for range 400 {
		blocks := someBlocks(&s, 1+s.below(impl.MaxBlocks), 5+s.below(20))
		if len(extentsOf(blocks, true)) > impl.MaxExtents {
			continue
		}
		checkQuestions(t, blocks)
		for range 10 {
			x := extent(s.below(len(blocks)), 1+s.below(6))
			checkTakeExact(t, blocks, x)
			checkGiveRoom(t, blocks, x)
		}
		for _, how := range ways() {
			checkTakeRoom(t, blocks, 1+s.below(20), how, s.below(len(blocks)))
		}
	}
}

// Where there are MaxExtents already none more may come, but all that makes no more may be done.
func TestFreeRoomThatIsFull(t *testing.T) {
	for _, many := range []int{5 * impl.MaxExtents, impl.MaxBlocks} {
		blocks := fullBlocks(many)
		if len(freeOf(blocks).ByPlace) != impl.MaxExtents {
			t.Fatal("not full")
		}
		checkQuestions(t, blocks)
		for at := range many {
			for long := 1; long <= 4; long++ {
				checkTakeExact(t, blocks, extent(at, long))
				checkGiveRoom(t, blocks, extent(at, long))
				checkTakeRoom(t, blocks, long, impl.PickNear, at)
			}
		}
	}
}

// A row of steps: the free room stays what its blocks tell, and when all is given back it is new again.
func TestARowOfTakesAndGives(t *testing.T) {
	for seed := range 20 {
		s := steps(50 + seed)
		f, ok := impl.NewFree(1 + s.below(impl.MaxBlocks))
		first := f
		blocks := slices.Repeat([]bool{true}, f.Blocks)
		wantFree(t, "NewFree", f, ok, freeOf(blocks))
		var taken []impl.Extent
		for range 200 {
			if len(taken) > 0 && s.below(3) == 0 {
				i := s.below(len(taken))
				blocks = withBlocks(blocks, taken[i], true)
				got, ok := impl.GiveRoom(f, taken[i])
				wantFree(t, "GiveRoom", got, ok, freeOf(blocks))
				f, taken = got, slices.Delete(taken, i, i+1)
				continue
			}
			long := 1 + s.below(12)
			got, at, ok := impl.TakeRoom(f, long, ways()[s.below(4)], s.below(f.Blocks))
			if !ok {
				continue
			}
			x := extent(at, long)
			checkTaken(t, f, got, x)
			blocks = withBlocks(blocks, x, false)
			wantFree(t, "TakeRoom", got, ok, freeOf(blocks))
			f, taken = got, append(taken, x)
		}
		for _, x := range taken {
			f, ok = impl.GiveRoom(f, x)
		}
		wantFree(t, "all given back", f, true, first)
	}
}

// Free and used extents are together all blocks, each once, and no two of one kind touch.
func TestFreeAndUsedAreAllBlocks(t *testing.T) {
	s := steps(55)
	for range 300 {
		blocks := someBlocks(&s, 1+s.below(impl.MaxBlocks), 4+s.below(30))
		f := freeOf(blocks)
		if len(f.ByPlace) > impl.MaxExtents {
			continue
		}
		used, ok := impl.UsedExtents(f)
		wantExtents(t, "UsedExtents", used, ok, extentsOf(blocks, false))
		all := slices.Concat(f.ByPlace, used)
		slices.SortFunc(all, func(a impl.Extent, b impl.Extent) int { return cmp.Compare(a.At, b.At) })
		next := 0
		for i, x := range all {
			if x.At != next || i > 0 && slices.Contains(used, x) == slices.Contains(used, all[i-1]) {
				t.Fatalf("%v is not what follows %d in %v", x, next, all)
			}
			next = x.At + x.Long
		}
		if next != f.Blocks {
			t.Fatalf("%v ends at %d, not %d", all, next, f.Blocks)
		}
	}
}
