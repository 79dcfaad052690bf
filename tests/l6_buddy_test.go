package tests

import (
	"math"
	"slices"
	"testing"

	"loop.example/g00261/impl"
)

func TestConstantsOfBuddies(t *testing.T) {
	if impl.MaxOrder != 8 {
		t.Error("MaxOrder is not 8")
	}
}

func TestNewBuddy(t *testing.T) {
	for order := 0; order <= 8; order++ {
		b, ok := impl.NewBuddy(order)
		wantBuddy(t, "NewBuddy", b, ok, impl.Buddy{Order: order, Free: blockList(0, order)})
		wantBytesFree(t, b, longOf(block(0, order)), order)
	}
	for _, order := range []int{-1, 9, 10, 63, 64, math.MaxInt, math.MinInt} {
		b, ok := impl.NewBuddy(order)
		wantNoBuddy(t, "NewBuddy", b, ok)
	}
}

func TestOrderFor(t *testing.T) {
	want := 0
	for n := 1; n <= 256; n++ {
		if longOf(block(0, want)) < n {
			want++
		}
		got, ok := impl.OrderFor(n)
		wantNumber(t, "OrderFor", got, ok, want)
	}
	for n, want := range map[int]int{1: 0, 2: 1, 3: 2, 4: 2, 5: 3, 128: 7, 129: 8, 255: 8, 256: 8} {
		got, ok := impl.OrderFor(n)
		wantNumber(t, "OrderFor", got, ok, want)
	}
	for _, n := range []int{0, -1, 257, 258, 512, math.MaxInt, math.MinInt} {
		got, ok := impl.OrderFor(n)
		wantNoNumber(t, "OrderFor", got, ok)
	}
}

func TestBuddyOf(t *testing.T) {
	const far = 1 << 30
	for x, want := range map[impl.Block]impl.Block{
		block(0, 0): block(1, 0), block(1, 0): block(0, 0), block(2, 0): block(3, 0), block(7, 0): block(6, 0),
		block(0, 1): block(2, 1), block(2, 1): block(0, 1), block(12, 2): block(8, 2), block(8, 2): block(12, 2),
		block(0, 7): block(128, 7), block(128, 7): block(0, 7), block(256, 7): block(384, 7), block(384, 7): block(256, 7),
		block(far-1, 0): block(far-2, 0), block(far-2, 0): block(far-1, 0), block(far-128, 7): block(far-256, 7),
	} {
		if got, ok := impl.BuddyOf(x); got != want || !ok {
			t.Errorf("BuddyOf %v: got %v %v, want %v", x, got, ok, want)
		}
	}
}

func TestBlocksWithoutBuddy(t *testing.T) {
	const far = 1 << 30
	l := blockList(0, -1, 2, -1, 0, 8, 256, 8, 512, 8, 0, 9, 512, 9, 0, 64, 0, math.MaxInt, 0, math.MinInt)
	l = append(l, blockList(1, 1, 3, 1, 2, 2, 6, 2, 127, 7, 129, 7, 64, 7, 192, 7)...)
	l = append(l, blockList(-1, 0, -2, 1, -128, 7, -256, 7, math.MinInt, 0, math.MinInt, 7)...)
	l = append(l, blockList(far+1, 0, far+2, 1, far+2, 0, far+128, 7, 2*far, 0, 2*far, 7, math.MaxInt, 0, math.MaxInt-127, 7)...)
	for order := 0; order <= 8; order++ {
		l = append(l, block(far, order))
	}
	for _, x := range l {
		if got, ok := impl.BuddyOf(x); ok || got != block(0, 0) {
			t.Errorf("BuddyOf %v: got %v %v", x, got, ok)
		}
	}
}

func TestGoodBuddies(t *testing.T) {
	l := []impl.Buddy{
		{Order: 0, Free: blockList(0, 0)}, {Order: 0, Used: blockList(0, 0)},
		{Order: 8, Free: blockList(0, 8)}, {Order: 8, Used: blockList(0, 8)},
		{Order: 1, Free: blockList(0, 0), Used: blockList(1, 0)}, {Order: 1, Free: blockList(1, 0), Used: blockList(0, 0)},
		{Order: 1, Used: blockList(0, 0, 1, 0)},
		// Two free ones that touch but are no halves of one block.
		{Order: 2, Free: blockList(1, 0, 2, 0), Used: blockList(0, 0, 3, 0)},
		{Order: 3, Free: blockList(2, 1, 4, 1), Used: blockList(0, 1, 6, 1)},
		// Two free ones that touch and are halves of one block but for their order.
		{Order: 2, Free: blockList(1, 0, 2, 1), Used: blockList(0, 0)},
		{Order: 2, Free: blockList(0, 1, 2, 0), Used: blockList(3, 0)},
		// A free one whose buddy is used, and one whose buddy is halved.
		{Order: 2, Free: blockList(0, 1), Used: blockList(2, 1)},
		{Order: 2, Free: blockList(0, 1), Used: blockList(2, 0, 3, 0)},
		{Order: 3, Free: blockList(0, 0, 2, 1), Used: blockList(1, 0, 4, 2)},
	}
	for at := range 256 {
		x := block(at, 0)
		l = append(l, buddyWith(8, x))
	}
	var every []impl.Block
	for at := range 256 {
		every = append(every, block(at, 0))
	}
	l = append(l, impl.Buddy{Order: 8, Used: every}, buddyWith(8, every[1:]...), buddyWith(8, every[:255]...))
	for _, b := range l {
		if !impl.GoodBuddy(b) {
			t.Errorf("%v is not good", b)
		}
		if len(b.Used) < 100 {
			checkBuddy(t, b)
		}
	}
}

func TestGreaterBlocksAreHalved(t *testing.T) {
	b, _ := impl.NewBuddy(8)
	got, at, ok := impl.TakeBlock(b, 0)
	want := impl.Buddy{Order: 8, Free: blockList(1, 0, 2, 1, 4, 2, 8, 3, 16, 4, 32, 5, 64, 6, 128, 7), Used: blockList(0, 0)}
	wantBuddy(t, "TakeBlock of order 0", got, ok, want)
	wantBytesFree(t, got, 255, 7)
	if at != 0 {
		t.Errorf("taken at %d", at)
	}
	again, ok := impl.GiveBlock(got, 0)
	wantBuddy(t, "all comes together again", again, ok, b)

	got, at, ok = impl.TakeBlock(buddyWith(4, block(0, 3)), 1)
	wantBuddy(t, "TakeBlock of order 1", got, ok, impl.Buddy{Order: 4, Free: blockList(10, 1, 12, 2), Used: blockList(0, 3, 8, 1)})
	if at != 8 {
		t.Errorf("taken at %d", at)
	}
}

func TestTheFirstOfTheLeastOrderIsTaken(t *testing.T) {
	// Free: two of order 1 and one of order 2; the greater one stands ahead of them.
	b := impl.Buddy{Order: 4, Free: blockList(0, 2, 6, 1, 10, 1), Used: blockList(4, 1, 8, 1, 12, 2)}
	for order, want := range []struct {
		at  int
		now impl.Buddy
	}{
		{6, impl.Buddy{Order: 4, Free: blockList(0, 2, 7, 0, 10, 1), Used: blockList(4, 1, 6, 0, 8, 1, 12, 2)}},
		{6, impl.Buddy{Order: 4, Free: blockList(0, 2, 10, 1), Used: blockList(4, 1, 6, 1, 8, 1, 12, 2)}},
		{0, impl.Buddy{Order: 4, Free: blockList(6, 1, 10, 1), Used: blockList(0, 2, 4, 1, 8, 1, 12, 2)}},
	} {
		got, at, ok := impl.TakeBlock(b, order)
		wantBuddy(t, "TakeBlock", got, ok, want.now)
		if at != want.at {
			t.Errorf("order %d is taken at %d, want %d", order, at, want.at)
		}
	}
	for _, order := range []int{-1, 3, 4, 5, 8, 9, 64, math.MaxInt, math.MinInt} {
		wantNoneHeld(t, b, order)
	}
}

func TestAllIsTakenAtOnce(t *testing.T) {
	for order := 0; order <= 8; order++ {
		b, _ := impl.NewBuddy(order)
		wantNoneHeld(t, b, order+1)
		wantNoneHeld(t, b, -1)
		full, at, ok := impl.TakeBlock(b, order)
		wantBuddy(t, "TakeBlock of all", full, ok, impl.Buddy{Order: order, Used: blockList(0, order)})
		wantBytesFree(t, full, 0, 0)
		if at != 0 {
			t.Errorf("all is taken at %d", at)
		}
		for o := -1; o <= 9; o++ {
			wantNoneHeld(t, full, o)
		}
		again, ok := impl.GiveBlock(full, 0)
		wantBuddy(t, "GiveBlock of all", again, ok, b)
	}
}

// The bytes are taken one by one from the front, as each time the first of the least is taken.
func TestByteByByte(t *testing.T) {
	b, ok := impl.NewBuddy(8)
	for want := range 256 {
		var at int
		b, at, ok = impl.TakeBlock(b, 0)
		if !ok || at != want || !impl.GoodBuddy(b) {
			t.Fatalf("byte %d is taken at %d: %v", want, at, ok)
		}
		many, _, _ := impl.BytesFree(b)
		if many != 255-want {
			t.Fatalf("%d bytes are free behind %d", many, want)
		}
	}
	wantNoneHeld(t, b, 0)
	for at := range 256 {
		// 97 is odd: each byte has its turn.
		b, ok = impl.GiveBlock(b, at*97%256)
		if !ok || !impl.GoodBuddy(b) {
			t.Fatalf("byte %d is not given back", at*97%256)
		}
	}
	wantBuddy(t, "all given back", b, ok, buddyWith(8))
}

func TestGiveBlock(t *testing.T) {
	b := impl.Buddy{Order: 4, Free: blockList(0, 1, 5, 0, 12, 2), Used: blockList(2, 1, 4, 0, 6, 1, 8, 2)}
	for at, want := range map[int]impl.Buddy{
		// Its buddy is free, and that of both together is halved.
		2: {Order: 4, Free: blockList(0, 2, 5, 0, 12, 2), Used: blockList(4, 0, 6, 1, 8, 2)},
		// Its buddy is the upper one; the next is used.
		4: {Order: 4, Free: blockList(0, 1, 4, 1, 12, 2), Used: blockList(2, 1, 6, 1, 8, 2)},
		// Its buddy is halved.
		6: {Order: 4, Free: blockList(0, 1, 5, 0, 6, 1, 12, 2), Used: blockList(2, 1, 4, 0, 8, 2)},
		// Its buddy is free, and the half ahead of both is halved.
		8: {Order: 4, Free: blockList(0, 1, 5, 0, 8, 3), Used: blockList(2, 1, 4, 0, 6, 1)},
	} {
		got, ok := impl.GiveBlock(b, at)
		wantBuddy(t, "GiveBlock", got, ok, want)
	}
	// A free one's, inside a free one, inside a used one, at the end, beyond it.
	for _, at := range []int{0, 5, 12, 1, 13, 15, 3, 7, 9, 10, 11, 16, 17, 256, -1, -2, math.MaxInt, math.MinInt} {
		got, ok := impl.GiveBlock(b, at)
		wantNoBuddy(t, "GiveBlock where no used one begins", got, ok)
	}
}

func TestAGivenBlockWhoseBuddyIsUsedStaysAlone(t *testing.T) {
	b := impl.Buddy{Order: 2, Used: blockList(0, 1, 2, 1)}
	got, ok := impl.GiveBlock(b, 0)
	wantBuddy(t, "the lower one", got, ok, impl.Buddy{Order: 2, Free: blockList(0, 1), Used: blockList(2, 1)})
	got, ok = impl.GiveBlock(b, 2)
	wantBuddy(t, "the upper one", got, ok, impl.Buddy{Order: 2, Free: blockList(2, 1), Used: blockList(0, 1)})
}

// A neighbour that is free is no buddy yet: 2 and 4 touch, but lie in unlike halves.
func TestAGivenBlockDoesNotJoinANeighbour(t *testing.T) {
	b := impl.Buddy{Order: 3, Free: blockList(4, 1), Used: blockList(0, 1, 2, 1, 6, 1)}
	got, ok := impl.GiveBlock(b, 2)
	wantBuddy(t, "GiveBlock", got, ok, impl.Buddy{Order: 3, Free: blockList(2, 1, 4, 1), Used: blockList(0, 1, 6, 1)})
}

// A buddy of less than the greatest order ends with its bytes: the block behind them is none of it.
func TestJoiningEndsAtTheWhole(t *testing.T) {
	for order := 0; order <= 8; order++ {
		for _, x := range slices.Concat(blockList(0, order), upperHalves(order)) {
			got, ok := impl.GiveBlock(buddyWith(order, x), x.At)
			wantBuddy(t, "GiveBlock", got, ok, impl.Buddy{Order: order, Free: blockList(0, order)})
		}
	}
}

// upperHalves are the last blocks of each lesser order.
func upperHalves(order int) []impl.Block {
	var l []impl.Block
	whole := longOf(block(0, order))
	for o := range order {
		l = append(l, block(whole-longOf(block(0, o)), o))
	}
	return l
}

func TestBytesFree(t *testing.T) {
	wantBytesFree(t, impl.Buddy{Order: 0, Free: blockList(0, 0)}, 1, 0)
	wantBytesFree(t, impl.Buddy{Order: 0, Used: blockList(0, 0)}, 0, 0)
	wantBytesFree(t, impl.Buddy{Order: 8, Free: blockList(0, 8)}, 256, 8)
	wantBytesFree(t, impl.Buddy{Order: 4, Free: blockList(0, 2, 6, 1, 10, 1), Used: blockList(4, 1, 8, 1, 12, 2)}, 8, 2)
	wantBytesFree(t, impl.Buddy{Order: 4, Free: blockList(2, 1, 4, 2), Used: blockList(0, 1, 8, 3)}, 6, 2)
	wantBytesFree(t, impl.Buddy{Order: 1, Free: blockList(1, 0), Used: blockList(0, 0)}, 1, 0)
}
