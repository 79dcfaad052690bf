package tests

import (
	"cmp"
	"slices"
	"testing"

	"loop.example/g00261/impl"
)

func block(at int, order int) impl.Block {
	return impl.Block{At: at, Order: order}
}

// blockList is made of two numbers each: where it is, its order.
func blockList(numbers ...int) []impl.Block {
	var l []impl.Block
	for i := 0; i < len(numbers); i += 2 {
		l = append(l, block(numbers[i], numbers[i+1]))
	}
	return l
}

// longOf doubles as often as the order says.
func longOf(x impl.Block) int {
	long := 1
	for range x.Order {
		long *= 2
	}
	return long
}

// meet: two blocks have a byte in common.
func meet(a impl.Block, b impl.Block) bool {
	return a.At < b.At+longOf(b) && b.At < a.At+longOf(a)
}

// greatestFree are the greatest blocks within one that meet no used one.
func greatestFree(within impl.Block, used []impl.Block) []impl.Block {
	meets := func(u impl.Block) bool { return meet(within, u) }
	if !slices.ContainsFunc(used, meets) {
		return []impl.Block{within}
	}
	if within.Order == 0 {
		return nil
	}
	lower := block(within.At, within.Order-1)
	upper := block(within.At+longOf(lower), within.Order-1)
	return append(greatestFree(lower, used), greatestFree(upper, used)...)
}

// buddyWith has these blocks used: what is free in a good buddy hangs on them alone.
func buddyWith(order int, used ...impl.Block) impl.Buddy {
	used = slices.Clone(used)
	slices.SortFunc(used, func(a impl.Block, b impl.Block) int { return cmp.Compare(a.At, b.At) })
	return impl.Buddy{Order: order, Free: greatestFree(block(0, order), used), Used: used}
}

// usedSets are all ways in which blocks within one can be used.
func usedSets(within impl.Block) [][]impl.Block {
	sets := [][]impl.Block{nil, {within}}
	if within.Order == 0 {
		return sets
	}
	lower := block(within.At, within.Order-1)
	upper := block(within.At+longOf(lower), within.Order-1)
	for _, a := range usedSets(lower) {
		for _, b := range usedSets(upper) {
			if len(a)+len(b) > 0 {
				sets = append(sets, slices.Concat(a, b))
			}
		}
	}
	return sets
}

// allBuddies are all good ones of an order.
func allBuddies(order int) []impl.Buddy {
	var l []impl.Buddy
	for _, used := range usedSets(block(0, order)) {
		l = append(l, buddyWith(order, used...))
	}
	return l
}

func sameBuddy(a impl.Buddy, b impl.Buddy) bool {
	return a.Order == b.Order && slices.Equal(a.Free, b.Free) && slices.Equal(a.Used, b.Used)
}

func wantBuddy(t *testing.T, what string, got impl.Buddy, ok bool, want impl.Buddy) {
	t.Helper()
	if !ok || !sameBuddy(got, want) {
		t.Fatalf("%s: got %v %v, want %v", what, got, ok, want)
	}
	if !impl.GoodBuddy(got) {
		t.Fatalf("%s: %v is not good", what, got)
	}
}

func wantNoBuddy(t *testing.T, what string, got impl.Buddy, ok bool) {
	t.Helper()
	if ok || !sameBuddy(got, impl.Buddy{}) {
		t.Fatalf("%s: got %v %v, want the zero answer", what, got, ok)
	}
}

func wantNoneHeld(t *testing.T, b impl.Buddy, order int) {
	t.Helper()
	got, at, ok := impl.TakeBlock(b, order)
	wantNoBuddy(t, "TakeBlock", got, ok)
	if at != 0 {
		t.Fatalf("TakeBlock of order %d from %v: refused at %d", order, b, at)
	}
}

func wantBytesFree(t *testing.T, b impl.Buddy, many int, greatest int) {
	t.Helper()
	gotMany, gotGreatest, ok := impl.BytesFree(b)
	if !ok || gotMany != many || gotGreatest != greatest {
		t.Fatalf("BytesFree of %v: got %d %d %v, want %d %d", b, gotMany, gotGreatest, ok, many, greatest)
	}
}

// bytesFree counts byte by byte.
func bytesFree(b impl.Buddy) int {
	many := 0
	for at := range longOf(block(0, b.Order)) {
		covers := func(x impl.Block) bool { return meet(x, block(at, 0)) }
		if !slices.ContainsFunc(b.Used, covers) {
			many++
		}
	}
	return many
}

// holderByTrial asks for each order from the one wanted on, and there for each place.
func holderByTrial(b impl.Buddy, order int) (impl.Block, bool) {
	for o := order; o <= b.Order; o++ {
		for at := range longOf(block(0, b.Order)) {
			if slices.Contains(b.Free, block(at, o)) {
				return block(at, o), true
			}
		}
	}
	return impl.Block{}, false
}

// checkTakeBlock: what is taken was free and is used then, and given back it leaves all as it was.
func checkTakeBlock(t *testing.T, b impl.Buddy, order int) {
	t.Helper()
	holder, is := holderByTrial(b, order)
	if !is {
		wantNoneHeld(t, b, order)
		return
	}
	x := block(holder.At, order)
	taken, at, ok := impl.TakeBlock(b, order)
	wantBuddy(t, "TakeBlock", taken, ok, buddyWith(b.Order, append(slices.Clone(b.Used), x)...))
	if at != x.At {
		t.Fatalf("TakeBlock of order %d from %v: got place %d, want %d", order, b, at, x.At)
	}
	before, _, ok := impl.BytesFree(b)
	behind, _, is := impl.BytesFree(taken)
	if !ok || !is || behind != before-longOf(x) {
		t.Fatalf("%v was taken from %v: %d bytes free, then %d", x, b, before, behind)
	}
	again, ok := impl.GiveBlock(taken, at)
	wantBuddy(t, "GiveBlock of what was taken", again, ok, b)
}

// checkGiveBlock: at each place a used block is given back, where one begins there.
func checkGiveBlock(t *testing.T, b impl.Buddy, at int) {
	t.Helper()
	got, ok := impl.GiveBlock(b, at)
	i := slices.IndexFunc(b.Used, func(x impl.Block) bool { return x.At == at })
	if i < 0 {
		wantNoBuddy(t, "GiveBlock where no used one begins", got, ok)
		return
	}
	left := slices.Delete(slices.Clone(b.Used), i, i+1)
	wantBuddy(t, "GiveBlock", got, ok, buddyWith(b.Order, left...))
	before, _, ok := impl.BytesFree(b)
	behind, _, is := impl.BytesFree(got)
	if !ok || !is || behind != before+longOf(b.Used[i]) {
		t.Fatalf("%v was given back to %v: %d bytes free, then %d", b.Used[i], b, before, behind)
	}
}

func checkBytesFree(t *testing.T, b impl.Buddy) {
	t.Helper()
	greatest := 0
	for _, x := range b.Free {
		if longOf(x) > longOf(block(0, greatest)) {
			greatest = x.Order
		}
	}
	wantBytesFree(t, b, bytesFree(b), greatest)
}

func checkBuddy(t *testing.T, b impl.Buddy) {
	t.Helper()
	if !impl.GoodBuddy(b) {
		t.Fatalf("%v is not good", b)
	}
	for order := -1; order <= b.Order+1; order++ {
		if order < 0 {
			wantNoneHeld(t, b, order)
			continue
		}
		checkTakeBlock(t, b, order)
	}
	for at := -1; at <= longOf(block(0, b.Order)); at++ {
		checkGiveBlock(t, b, at)
	}
	checkBytesFree(t, b)
}

func TestAllBuddiesOfFewBytes(t *testing.T) {
	for order, want := range []int{2, 5, 26, 677} {
		all := allBuddies(order)
		if len(all) != want {
			t.Fatalf("%d buddies of order %d", len(all), order)
		}
		for _, b := range all {
			checkBuddy(t, b)
		}
	}
}

// someBuddy takes and gives back as the steps say; each step is held against what is used alone.
func someBuddy(t *testing.T, s *steps, order int, many int) impl.Buddy {
	t.Helper()
	b, ok := impl.NewBuddy(order)
	wantBuddy(t, "NewBuddy", b, ok, buddyWith(order))
	for range many {
		if len(b.Used) > 0 && s.below(3) == 0 {
			i := s.below(len(b.Used))
			want := buddyWith(order, slices.Delete(slices.Clone(b.Used), i, i+1)...)
			b, ok = impl.GiveBlock(b, b.Used[i].At)
			wantBuddy(t, "GiveBlock", b, ok, want)
			continue
		}
		wanted := s.below(min(order, 4) + 1)
		holder, is := holderByTrial(b, wanted)
		if !is {
			continue
		}
		want := buddyWith(order, append(slices.Clone(b.Used), block(holder.At, wanted))...)
		b, _, ok = impl.TakeBlock(b, wanted)
		wantBuddy(t, "TakeBlock", b, ok, want)
	}
	return b
}

func TestBuddiesOfManySteps(t *testing.T) {
	s := steps(6)
	for order := 0; order <= impl.MaxOrder; order++ {
		for range 4 {
			checkBuddy(t, someBuddy(t, &s, order, 12*(order+1)))
		}
	}
}

// Blocks that are taken one behind another may be given back in any order.
func TestAllGivenBackInAnyOrderIsAsNew(t *testing.T) {
	s := steps(66)
	for order := 0; order <= impl.MaxOrder; order++ {
		for range 5 {
			b := someBuddy(t, &s, order, 10*(order+1))
			for len(b.Used) > 0 {
				var ok bool
				b, ok = impl.GiveBlock(b, b.Used[s.below(len(b.Used))].At)
				if !ok || !impl.GoodBuddy(b) {
					t.Fatalf("GiveBlock: got %v %v", b, ok)
				}
			}
			wantBuddy(t, "all given back", b, true, buddyWith(order))
		}
	}
}

// halvesByTrial: the other half of the block one greater that has both and nothing else.
func halvesByTrial(x impl.Block) (impl.Block, bool) {
	long := longOf(x)
	for _, at := range []int{x.At - long, x.At + long} {
		if first := min(at, x.At); first >= 0 && first%(2*long) == 0 && at <= 1<<30 {
			return block(at, x.Order), true
		}
	}
	return impl.Block{}, false
}

func checkBuddyOf(t *testing.T, x impl.Block) {
	t.Helper()
	want, is := halvesByTrial(x)
	got, ok := impl.BuddyOf(x)
	if got != want || ok != is {
		t.Fatalf("BuddyOf %v: got %v %v, want %v %v", x, got, ok, want, is)
	}
	if !ok {
		return
	}
	if again, ok := impl.BuddyOf(got); again != x || !ok {
		t.Fatalf("BuddyOf %v, the buddy of %v: got %v %v", got, x, again, ok)
	}
}

func TestTheBuddyOfTheBuddyIsTheBlock(t *testing.T) {
	for order := range impl.MaxOrder {
		long := longOf(block(0, order))
		for i := range 600 {
			checkBuddyOf(t, block(i*long, order))
			checkBuddyOf(t, block(1<<30-i*long, order))
		}
		for k := range 30 - order {
			checkBuddyOf(t, block(long<<k, order))
		}
	}
}
