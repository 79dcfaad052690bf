package tests

import (
	"math"
	"slices"
	"testing"

	"loop.example/g00261/impl"
)

// goodByTrial goes by the words of the chapter one by one: each byte is covered just once, by blocks that rise.
func goodByTrial(b impl.Buddy) bool {
	if b.Order < 0 || b.Order > 8 {
		return false
	}
	covered := make([]int, longOf(block(0, b.Order)))
	for _, l := range [][]impl.Block{b.Free, b.Used} {
		for i, x := range l {
			if x.Order < 0 || x.Order > 8 || x.At < 0 || x.At > len(covered)-longOf(x) || x.At%longOf(x) != 0 {
				return false
			}
			if i > 0 && l[i-1].At >= x.At {
				return false
			}
			for at := range longOf(x) {
				covered[x.At+at]++
			}
		}
	}
	if slices.Min(covered) != 1 || slices.Max(covered) != 1 {
		return false
	}
	for _, x := range b.Free {
		if other, is := halvesByTrial(x); is && x.Order < 8 && slices.Contains(b.Free, other) {
			return false
		}
	}
	return true
}

// listsOf are all lists of so many blocks, in every order, one of them as often as it may be.
func listsOf(blocks []impl.Block, many int) [][]impl.Block {
	if many == 0 {
		return [][]impl.Block{nil}
	}
	var out [][]impl.Block
	for _, l := range listsOf(blocks, many-1) {
		for _, x := range blocks {
			out = append(out, append(slices.Clone(l), x))
		}
	}
	return out
}

func checkGood(t *testing.T, b impl.Buddy) {
	t.Helper()
	if got := impl.GoodBuddy(b); got != goodByTrial(b) {
		t.Fatalf("GoodBuddy of %v: got %v", b, got)
	}
}

// checkAllGood lets each piece of a list be free, and the rest of it used.
func checkAllGood(t *testing.T, blocks []impl.Block, many int) {
	t.Helper()
	for _, l := range listsOf(blocks, many) {
		for free := range many + 1 {
			for order := -1; order <= 3; order++ {
				checkGood(t, impl.Buddy{Order: order, Free: l[:free], Used: l[free:]})
			}
		}
	}
}

func TestGoodIsWhatTheWordsSay(t *testing.T) {
	var blocks []impl.Block
	for at := -1; at <= 5; at++ {
		for order := -1; order <= 3; order++ {
			blocks = append(blocks, block(at, order))
		}
	}
	for many := range 3 {
		checkAllGood(t, blocks, many)
	}
	checkAllGood(t, blockList(0, 0, 0, 1, 0, 2, 1, 0, 1, 1, 2, 0, 2, 1, 3, 0, 4, 0), 3)
	checkAllGood(t, blockList(0, 0, 0, 1, 1, 0, 2, 0, 2, 1, 3, 0), 4)
}

// badBuddies are not as said, each in one way.
func badBuddies() map[string]impl.Buddy {
	l := map[string]impl.Buddy{
		"nothing": {}, "less than none": {Order: -1}, "order -1": {Order: -1, Free: blockList(0, 0)},
		"a block of order -1": {Order: -1, Free: blockList(0, -1)}, "one too great": {Order: 9, Free: blockList(0, 9)},
		"two of the greatest": {Order: 9, Free: blockList(0, 8), Used: blockList(256, 8)},
		"two used":            {Order: 9, Used: blockList(0, 8, 256, 8)},
		"least":               {Order: math.MinInt, Free: blockList(0, 0)}, "most": {Order: math.MaxInt, Free: blockList(0, 8)},
		"64": {Order: 64, Free: blockList(0, 8)}, "63": {Order: 63, Free: blockList(0, 8)},
		"no blocks": {Order: 2}, "no blocks, the greatest": {Order: 8},
		"too little":  {Order: 3, Free: blockList(0, 2)},
		"too great":   {Order: 2, Free: blockList(0, 3)},
		"gap at 0":    {Order: 2, Used: blockList(1, 0, 2, 1)},
		"gap between": {Order: 2, Used: blockList(0, 0, 2, 1)}, "gap at the end": {Order: 2, Used: blockList(0, 1, 2, 0)},
		"free ones fall":        {Order: 3, Free: blockList(6, 1, 0, 1), Used: blockList(2, 1, 4, 1)},
		"used ones fall":        {Order: 3, Free: blockList(0, 1, 6, 1), Used: blockList(4, 1, 2, 1)},
		"a free one more":       {Order: 2, Free: blockList(0, 1, 0, 1), Used: blockList(2, 1)},
		"a used one more":       {Order: 2, Free: blockList(0, 1), Used: blockList(2, 1, 2, 1)},
		"used and free":         {Order: 2, Free: blockList(0, 1), Used: blockList(0, 1, 2, 1)},
		"all twice":             {Order: 2, Free: blockList(0, 2), Used: blockList(0, 2)},
		"overlap within free":   {Order: 2, Free: blockList(0, 1, 1, 0), Used: blockList(2, 1)},
		"overlap within used":   {Order: 2, Used: blockList(0, 1, 1, 0, 2, 1)},
		"overlap of both":       {Order: 2, Free: blockList(1, 0), Used: blockList(0, 1, 2, 1)},
		"overlap the other way": {Order: 2, Free: blockList(0, 1), Used: blockList(1, 0, 2, 1)},
		"beyond its end":        {Order: 2, Free: blockList(0, 2), Used: blockList(4, 2)},
		"free beyond":           {Order: 2, Free: blockList(4, 2), Used: blockList(0, 2)},
		"over its end":          {Order: 2, Free: blockList(3, 0), Used: blockList(0, 1, 2, 1)},
		"no multiple":           {Order: 2, Free: blockList(1, 1), Used: blockList(0, 0, 3, 0)},
		"no multiple, used":     {Order: 2, Free: blockList(0, 0, 3, 0), Used: blockList(1, 1)},
		"a free pair":           {Order: 1, Free: blockList(0, 0, 1, 0)},
		"a free pair behind":    {Order: 3, Free: blockList(1, 0, 4, 1, 6, 1), Used: blockList(0, 0, 2, 1)},
		"a pair of the most":    {Order: 8, Free: blockList(0, 7, 128, 7)},
		"below 0":               {Order: 2, Free: blockList(-4, 2, 0, 2)},
		"an order below 0":      {Order: 1, Free: blockList(0, -1), Used: blockList(1, 0)},
		"a great order":         {Order: 1, Free: blockList(0, 64), Used: blockList(1, 0)},
		"the least order":       {Order: 1, Free: blockList(0, math.MinInt), Used: blockList(1, 0)},
		"the most order":        {Order: 1, Free: blockList(0, math.MaxInt), Used: blockList(1, 0)},
		"the least place":       {Order: 1, Free: blockList(math.MinInt, 0), Used: blockList(0, 1)},
		"the most place":        {Order: 1, Free: blockList(math.MaxInt, 0), Used: blockList(0, 1)},
		"used beyond all":       {Order: 1, Free: blockList(0, 1), Used: blockList(math.MaxInt, 0)},
	}
	var many []impl.Block
	for at := range 257 {
		many = append(many, block(at, 0))
	}
	l["too many used"] = impl.Buddy{Order: 8, Used: many}
	l["a byte is missing"] = impl.Buddy{Order: 8, Used: many[:255]}
	return l
}

func TestBadBuddiesAreRefused(t *testing.T) {
	for what, b := range badBuddies() {
		if impl.GoodBuddy(b) {
			t.Errorf("%s: %v is good", what, b)
		}
		for order := -1; order <= 9; order++ {
			wantNoneHeld(t, b, order)
		}
		for at := -1; at <= 9; at++ {
			got, ok := impl.GiveBlock(b, at)
			wantNoBuddy(t, what, got, ok)
		}
		if many, greatest, ok := impl.BytesFree(b); ok || many != 0 || greatest != 0 {
			t.Errorf("%s: BytesFree: got %d %d %v", what, many, greatest, ok)
		}
	}
}

func TestOddNumbersAreNoBuddies(t *testing.T) {
	good := buddyWith(4, block(0, 1), block(6, 1))
	for _, n := range oddNumbers() {
		within := n >= 0 && n <= 8
		if got, ok := impl.NewBuddy(n); ok != within || ok != impl.GoodBuddy(got) {
			t.Errorf("NewBuddy of %d: got %v %v", n, got, ok)
		}
		if n < 0 || n > 3 {
			wantNoneHeld(t, good, n)
		}
		if got, ok := impl.GiveBlock(good, n); n != 0 && n != 6 {
			wantNoBuddy(t, "GiveBlock", got, ok)
		}
		if got, ok := impl.OrderFor(n); ok != (n >= 1 && n <= 256) || !ok && got != 0 {
			t.Errorf("OrderFor %d: got %d %v", n, got, ok)
		}
		for _, m := range oddNumbers() {
			checkOddBlock(t, block(n, m))
		}
	}
}

// checkOddBlock: a buddy has only what is a block, and a block that lies where it is the next one is good.
func checkOddBlock(t *testing.T, x impl.Block) {
	t.Helper()
	is := x.Order >= 0 && x.Order <= 8 && x.At >= 0 && x.At <= 1<<30 && x.At%longOf(x) == 0
	if got, ok := impl.BuddyOf(x); !is && (ok || got != block(0, 0)) {
		t.Fatalf("BuddyOf %v: got %v %v", x, got, ok)
	}
	for order := 0; order <= 8; order++ {
		if impl.GoodBuddy(impl.Buddy{Order: order, Free: []impl.Block{x}}) != (x == block(0, order)) {
			t.Fatalf("%v alone, order %d", x, order)
		}
		b := impl.Buddy{Order: 8, Free: []impl.Block{x}, Used: blockList(0, 7)}
		if impl.GoodBuddy(b) != (x == block(128, 7)) {
			t.Fatalf("%v beside a half", x)
		}
	}
}

// roomyBuddy has room behind its lists, with blocks in it that are none of its.
func roomyBuddy() impl.Buddy {
	b := buddyWith(4, block(0, 1), block(4, 0), block(6, 1))
	behind := blockList(77, 7, 78, 8, 79, 9)
	b.Free = withRoom(b.Free, behind...)
	b.Used = withRoom(b.Used, behind...)
	return b
}

func listsOfBuddy(b impl.Buddy) [][]impl.Block {
	return [][]impl.Block{b.Free, b.Used}
}

// wantRoomyBuddy also looks behind the lists' length.
func wantRoomyBuddy(t *testing.T, what string, b impl.Buddy) {
	t.Helper()
	wantAsFresh(t, what, listsOfBuddy(b), listsOfBuddy(roomyBuddy()))
}

func wantBuddyApart(t *testing.T, what string, b impl.Buddy, answer impl.Buddy) {
	t.Helper()
	wantListsApart(t, what, listsOfBuddy(b), listsOfBuddy(roomyBuddy()), listsOfBuddy(answer), block(-9, -9))
}

func TestBuddyAnswersAreNewMemory(t *testing.T) {
	for order := range 4 {
		b := roomyBuddy()
		got, _, ok := impl.TakeBlock(b, order)
		if !ok {
			t.Fatalf("TakeBlock of order %d", order)
		}
		wantBuddyApart(t, "TakeBlock", b, got)
	}
	for _, at := range []int{0, 4, 6} {
		b := roomyBuddy()
		got, ok := impl.GiveBlock(b, at)
		if !ok {
			t.Fatalf("GiveBlock at %d", at)
		}
		wantBuddyApart(t, "GiveBlock", b, got)
	}
}

// What lies behind the length is not among the blocks: there it would mend what is bad, or be taken.
func TestBlocksBehindTheLengthDoNotCount(t *testing.T) {
	free, used := blockList(0, 1, 2, 0), blockList(3, 0, 4, 2)
	bad := impl.Buddy{Order: 3, Free: free[:1], Used: used}
	if impl.GoodBuddy(bad) || !impl.GoodBuddy(impl.Buddy{Order: 3, Free: free, Used: used}) {
		t.Error("a free block behind the length counts")
	}
	bad = impl.Buddy{Order: 3, Free: free, Used: used[:1]}
	if impl.GoodBuddy(bad) {
		t.Error("a used block behind the length counts")
	}
	full := impl.Buddy{Order: 0, Free: blockList(0, 0)[:0], Used: blockList(0, 0)}
	wantNoneHeld(t, full, 0)
	none := impl.Buddy{Order: 0, Free: blockList(0, 0), Used: blockList(0, 0)[:0]}
	got, ok := impl.GiveBlock(none, 0)
	wantNoBuddy(t, "GiveBlock", got, ok)
	wantBytesFree(t, full, 0, 0)
	wantBytesFree(t, none, 1, 0)
}

func TestNewBuddySharesNothing(t *testing.T) {
	a, _ := impl.NewBuddy(5)
	spoil(a.Free, block(9, 9))
	b, ok := impl.NewBuddy(5)
	wantBuddy(t, "NewBuddy after another was spoilt", b, ok, buddyWith(5))
}

func TestQuestionsAndRefusalsWriteIntoNoBuddy(t *testing.T) {
	b := roomyBuddy()
	impl.GoodBuddy(b)
	impl.BytesFree(b)
	for n := -1; n <= 17; n++ {
		impl.TakeBlock(b, n)
		impl.GiveBlock(b, n)
	}
	wantRoomyBuddy(t, "asked and refused", b)
	for what, bad := range badBuddies() {
		held := impl.Buddy{Order: bad.Order, Free: slices.Clone(bad.Free), Used: slices.Clone(bad.Used)}
		impl.GoodBuddy(bad)
		impl.TakeBlock(bad, 0)
		impl.GiveBlock(bad, 0)
		impl.BytesFree(bad)
		if !sameBuddy(bad, held) {
			t.Errorf("%s: %v was %v", what, bad, held)
		}
	}
}

// An answer does not hang on the order in which a map is gone through.
func TestBuddiesAnswerTheSameEachTime(t *testing.T) {
	s := steps(19)
	b := someBuddy(t, &s, 8, 150)
	taken, place, _ := impl.TakeBlock(b, 0)
	given, _ := impl.GiveBlock(b, b.Used[len(b.Used)/2].At)
	for range 50 {
		again, at, ok := impl.TakeBlock(b, 0)
		wantBuddy(t, "TakeBlock again", again, ok, taken)
		if at != place {
			t.Fatalf("taken at %d, then at %d", place, at)
		}
		again, ok = impl.GiveBlock(b, b.Used[len(b.Used)/2].At)
		wantBuddy(t, "GiveBlock again", again, ok, given)
	}
}
