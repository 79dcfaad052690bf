package tests

import (
	"math"
	"slices"
	"strings"
	"testing"

	"loop.example/g00261/impl"
)

func TestConstantsOfWork(t *testing.T) {
	if impl.MaxIntents != 30 || impl.MaxIntentSteps != 120 {
		t.Error("limits")
	}
	if impl.LogIntent != 1 || impl.LogDone != 2 {
		t.Error("kinds of items")
	}
	if impl.StepPromise != 1 || impl.StepWork != 2 || impl.StepFinish != 3 {
		t.Error("kinds of steps")
	}
}

func TestNewWork(t *testing.T) {
	for _, blocks := range []int{1, 2, 10, impl.MaxBlocks - 1, impl.MaxBlocks} {
		got, ok := impl.NewWork(blocks)
		wantWork(t, "NewWork", got, ok, impl.Work{Room: impl.Free{Blocks: blocks}, Next: 1})
		wantOpen(t, got, nil)
		wantPromised(t, got, 0)
	}
	for _, blocks := range []int{0, -1, impl.MaxBlocks + 1, math.MaxInt, math.MinInt} {
		got, ok := impl.NewWork(blocks)
		wantNoWork(t, "NewWork", got, ok)
	}
}

// goodWorkTexts are works that are good, each in its own way.
func goodWorkTexts() []string {
	return []string{
		"x|", ".|", "x..x.|", "xxxxxx|0+6", "xxxxxx|0+1", "xxxxxx|5+1", "xxxxxx|2+3 1=1", "xxxxxx|2+3 1=3", "xxxxxx|2+3 1=1 1=2 1=3", "xxxxxx|2+3 1=1 1=3",
		"xxxxxx|0+2 2+2 4+2", "xxxxxx|4+2 2+2 0+2", "xxxxxx|0+3 1=2 3+3 2=1 1=3", "xxxxxx|0+3 3+3 2=1 2=3 1=1", "xxxxxx|3+3 0+3 2=1 1=1 2=2 1=3 2=3",
		".xxxx.|1+4", ".xxxx.|1+2 3+2", ".xxxx.|2+2 1=1", "x.xx.x|0+1 2+2 5+1 2=1", "x.xx.x|5+1 1=1 2+2 0+1 3=1", "xxxxxxxx|0+1 2+1 4+1 6+1 1=1 3=1",
	}
}

func TestGoodWorks(t *testing.T) {
	for _, text := range goodWorkTexts() {
		if !impl.GoodWork(workIn(text)) {
			t.Errorf("%s is not good", text)
		}
	}
	empty := impl.Work{Room: impl.Free{Blocks: 1, ByPlace: []impl.Extent{}, BySize: []impl.Extent{}}, Next: 1, Items: []impl.Item{}}
	if !impl.GoodWork(empty) {
		t.Error("lists that are empty and not nil are not good")
	}
}

// wantGood: work of ten blocks, of which 0 and 9 are free, with those items.
func wantGood(t *testing.T, what string, next int, want bool, items ...impl.Item) {
	t.Helper()
	w := impl.Work{Room: freeIn(".xxxxxxxx."), Next: next, Items: items}
	if got := impl.GoodWork(w); got != want {
		t.Errorf("%s: GoodWork of %v: got %v", what, w, got)
	}
}

func TestGoodWorkOfIds(t *testing.T) {
	a, b, c := intent(1, 1, 2), intent(2, 4, 2), intent(3, 6, 2)
	wantGood(t, "none", 1, true)
	wantGood(t, "one", 2, true, a)
	wantGood(t, "three", 4, true, a, b, c)
	wantGood(t, "the first is 2", 2, false, b)
	wantGood(t, "the first is 2, Next 3", 3, false, b)
	wantGood(t, "the first is 0", 1, false, intent(0, 1, 2))
	wantGood(t, "0 and 1", 2, false, intent(0, 4, 2), a)
	wantGood(t, "below 0", 0, false, intent(-1, 1, 2))
	wantGood(t, "one is left out", 4, false, a, c)
	wantGood(t, "one is left out, Next 3", 3, false, a, c)
	wantGood(t, "one is there twice", 3, false, a, intent(1, 4, 2))
	wantGood(t, "one is there twice, Next 2", 2, false, a, intent(1, 4, 2))
	wantGood(t, "the second is there twice", 4, false, a, b, intent(2, 6, 2))
	wantGood(t, "not in order", 3, false, b, a)
	wantGood(t, "not in order behind the first", 4, false, a, c, b)
	for next := -1; next <= 5; next++ {
		wantGood(t, "Next of none", next, next == 1)
		wantGood(t, "Next of one", next, next == 2, a)
		wantGood(t, "Next of three", next, next == 4, a, b, c)
		wantGood(t, "Next of two, with done items", next, next == 3, a, done(1, 1), b, done(1, 2))
	}
}

func TestGoodWorkOfDoneItems(t *testing.T) {
	a, b := intent(1, 1, 3), intent(2, 4, 2)
	wantGood(t, "ahead of its intent", 2, false, done(1, 1), a)
	wantGood(t, "ahead of its intent, behind another", 3, false, a, done(2, 1), b)
	wantGood(t, "without an intent", 1, false, done(1, 1))
	for _, id := range []int{-1, 0, 3, 4, math.MaxInt, math.MinInt} {
		wantGood(t, "of an Id that no intent has", 3, false, a, b, done(id, 1))
	}
	for _, x := range extents(1, 3, 1, 1, 0, 1, 1, 0, 0, -1, 9, 9) {
		with := done(1, 1)
		with.Extent = x
		wantGood(t, "with an Extent", 3, false, a, b, with)
	}
	for upto := -1; upto <= 4; upto++ {
		wantGood(t, "the first Upto", 2, upto >= 1 && upto <= 3, a, done(1, upto))
		wantGood(t, "the second Upto behind 1", 2, upto >= 2 && upto <= 3, a, done(1, 1), done(1, upto))
		wantGood(t, "the second Upto behind 2", 2, upto == 3, a, done(1, 2), done(1, upto))
		wantGood(t, "behind all of it", 2, false, a, done(1, 3), done(1, upto))
		wantGood(t, "behind one of another Id", 3, upto >= 1 && upto <= 3, a, b, done(2, 2), done(1, upto))
		wantGood(t, "one of another Id between", 3, upto == 3, a, b, done(1, 2), done(2, 1), done(1, upto))
	}
	for _, upto := range []int{math.MaxInt, math.MinInt} {
		wantGood(t, "far away", 2, false, a, done(1, upto))
	}
}

func TestGoodWorkOfKinds(t *testing.T) {
	for _, kind := range []int{0, 3, -1, 4, math.MaxInt, math.MinInt} {
		a, d := intent(1, 1, 3), done(1, 1)
		a.Kind, d.Kind = kind, kind
		wantGood(t, "an intent of another Kind", 2, false, a)
		wantGood(t, "an intent of another Kind, Next 1", 1, false, a)
		wantGood(t, "a done item of another Kind", 2, false, intent(1, 1, 3), d)
		wantGood(t, "nothing", 1, false, impl.Item{Kind: kind})
	}
	for _, upto := range []int{1, 3, 4, -1, math.MaxInt, math.MinInt} {
		a := intent(1, 1, 3)
		a.Upto = upto
		wantGood(t, "an intent with an Upto", 2, false, a)
	}
}

func TestGoodWorkOfExtents(t *testing.T) {
	wantGood(t, "touching", 3, true, intent(1, 1, 3), intent(2, 4, 2))
	wantGood(t, "touching, the later one ahead", 3, true, intent(1, 4, 2), intent(2, 1, 3))
	wantGood(t, "overlapping", 3, false, intent(1, 1, 3), intent(2, 3, 2))
	wantGood(t, "overlapping, the later one ahead", 3, false, intent(1, 3, 2), intent(2, 1, 3))
	wantGood(t, "the same", 3, false, intent(1, 1, 3), intent(2, 1, 3))
	wantGood(t, "one in another", 3, false, intent(1, 1, 5), intent(2, 3, 1))
	wantGood(t, "one around another", 3, false, intent(1, 3, 1), intent(2, 1, 5))
	wantGood(t, "overlapping what is done", 3, false, intent(1, 1, 3), done(1, 3), intent(2, 3, 2))
	wantGood(t, "overlapping the first of three", 4, false, intent(1, 1, 2), intent(2, 5, 1), intent(3, 2, 2))
	wantGood(t, "all but what is free", 2, true, intent(1, 1, 8))
	wantGood(t, "the first is free", 2, false, intent(1, 0, 2))
	wantGood(t, "the last is free", 2, false, intent(1, 7, 3))
	wantGood(t, "free alone", 2, false, intent(1, 9, 1))
	wantGood(t, "both are free", 2, false, intent(1, 0, 10))
	wantGood(t, "beyond by one", 2, false, intent(1, 8, 3))
	wantGood(t, "beyond", 2, false, intent(1, 10, 1))
	wantGood(t, "below 0", 2, false, intent(1, -1, 1))
	wantGood(t, "no blocks", 2, false, intent(1, 3, 0))
	wantGood(t, "less than none", 2, false, intent(1, 3, -1))
	wantGood(t, "wraps round", 2, false, intent(1, 3, math.MaxInt))
	wantGood(t, "wraps below", 2, false, intent(1, math.MinInt, math.MinInt))
	for at := -1; at <= 6; at++ {
		for long := -1; long <= 7; long++ {
			w := impl.Work{Room: freeIn("xxxxxx"), Next: 2, Items: []impl.Item{intent(1, at, long)}}
			if got := impl.GoodWork(w); got != (at >= 0 && long >= 1 && at+long <= 6) {
				t.Errorf("GoodWork of %v: got %v", w, got)
			}
		}
	}
}

// manyIntents are so many of one block each, with one between them.
func manyIntents(many int) pledges {
	b := pledges{blocks: make([]bool, 100)}
	for i := range many {
		b = b.with(intent(i+1, 2*i, 1))
	}
	return b
}

// manyDone is one intent with so many done items.
func manyDone(many int) pledges {
	b := pledges{blocks: make([]bool, 100)}.with(intent(1, 0, 50))
	for i := range many {
		b = b.with(done(1, i+1))
	}
	return b
}

func TestGoodWorkOfAsManyItemsAsThereMayBe(t *testing.T) {
	for many := 28; many <= 32; many++ {
		if got := impl.GoodWork(manyIntents(many).work()); got != (many <= 30) {
			t.Errorf("%d intents: got %v", many, got)
		}
		if got := impl.GoodWork(manyDone(many - 1).work()); got != (many <= 30) {
			t.Errorf("an intent and %d done items: got %v", many-1, got)
		}
	}
}

func TestPromiseFreeByHand(t *testing.T) {
	for _, c := range []struct{ what, before, after string }{
		{"the first", "xxxxx|", "xxxxx|1+2"},
		{"all", "xxxxx|", "xxxxx|0+5"},
		{"one block", "x|", "x|0+1"},
		{"the last block", "xxxxx|", "xxxxx|4+1"},
		{"up to the last block", "xxxxx|0+1", "xxxxx|0+1 2+3"},
		{"touching from behind", "xxxxx|1+2", "xxxxx|1+2 3+1"},
		{"touching from ahead", "xxxxx|1+2", "xxxxx|1+2 0+1"},
		{"touching what is free", ".xx.x|", ".xx.x|1+2"},
		{"behind done items", "xxxxx|1+2 1=1", "xxxxx|1+2 1=1 3+2"},
		{"behind one that is finished", "xxxxx|1+2 1=2", "xxxxx|1+2 1=2 3+2"},
		{"the third", "xxxxx|4+1 3+1 1=1", "xxxxx|4+1 3+1 1=1 0+3"},
	} {
		b := pledgesIn(c.after)
		x := b.items[len(b.items)-1]
		got, id, ok := impl.PromiseFree(workIn(c.before), x.Extent)
		wantWork(t, c.what, got, ok, b.work())
		wantNumber(t, c.what, id, ok, b.next()-1)
	}
	for what, c := range map[string]struct {
		before string
		x      impl.Extent
	}{
		"long 0": {"xxxxx|", extent(1, 0)}, "nothing": {"xxxxx|", impl.Extent{}}, "less": {"xxxxx|", extent(1, -1)}, "below 0": {"xxxxx|", extent(-1, 2)},
		"one beyond the last": {"xxxxx|", extent(3, 3)}, "behind the last": {"xxxxx|", extent(5, 1)}, "wraps round": {"xxxxx|", extent(1, math.MaxInt)},
		"overlaps": {"xxxxx|1+2", extent(2, 2)}, "overlaps from ahead": {"xxxxx|1+2", extent(0, 2)}, "the same": {"xxxxx|1+2", extent(1, 2)},
		"within": {"xxxxx|1+3", extent(2, 1)}, "around": {"xxxxx|1+3", extent(0, 5)}, "overlaps the second": {"xxxxx|0+1 3+1", extent(2, 2)},
		"free": {"x.xxx|", extent(1, 1)}, "free at its end": {"x.xxx|", extent(0, 2)}, "free at its beginning": {"x.xxx|", extent(1, 2)}, "free within": {"x.xxx|", extent(0, 5)},
		"what is finished": {"xxxxx|1+2 1=2", extent(1, 2)}, "a part of what is finished": {"xxxxx|1+2 1=1 1=2", extent(1, 1)}, "what is done": {"xxxxx|1+2 1=1", extent(1, 1)}, "what is left": {"xxxxx|1+2 1=1", extent(2, 1)},
	} {
		got, id, ok := impl.PromiseFree(workIn(c.before), c.x)
		wantNotPromised(t, what, got, id, ok)
	}
	for at := -1; at <= 7; at++ {
		for long := -1; long <= 8; long++ {
			checkPromise(t, pledgesIn("xxx.xxx|"), extent(at, long))
			checkPromise(t, pledgesIn("xxxxxxx|2+2 5+1 1=1 2=1"), extent(at, long))
		}
	}
}

func TestPromiseFreeWithAsManyItemsAsThereMayBe(t *testing.T) {
	for _, b := range []pledges{manyIntents(29), manyDone(28)} {
		got, id, ok := impl.PromiseFree(b.work(), extent(80, 3))
		next := b.with(intent(b.next(), 80, 3))
		wantWork(t, "the item 30", got, ok, next.work())
		wantNumber(t, "the item 30", id, ok, b.next())
		got, id, ok = impl.PromiseFree(next.work(), extent(90, 1))
		wantNotPromised(t, "the item 31", got, id, ok)
	}
}

func TestWorkOnByHand(t *testing.T) {
	for _, c := range []struct {
		before   string
		id, many int
		after    string
	}{
		{"xxxxxx|1+4", 1, 1, "xxxxxx|1+4 1=1"}, {"xxxxxx|1+4", 1, 3, "xxxxxx|1+4 1=3"}, {"xxxxxx|1+4", 1, 4, "xxxxxx|1+4 1=4"},
		{"xxxxxx|1+4", 1, 5, "xxxxxx|1+4 1=4"}, {"xxxxxx|1+4", 1, math.MaxInt, "xxxxxx|1+4 1=4"}, {"xxxxxx|1+4 1=1", 1, math.MaxInt, "xxxxxx|1+4 1=1 1=4"},
		{"xxxxxx|1+4 1=3", 1, math.MaxInt - 3, "xxxxxx|1+4 1=3 1=4"}, {"xxxxxx|1+4 1=3", 1, math.MaxInt - 2, "xxxxxx|1+4 1=3 1=4"},
		{"xxxxxx|1+4 1=1", 1, 1, "xxxxxx|1+4 1=1 1=2"}, {"xxxxxx|1+4 1=1", 1, 3, "xxxxxx|1+4 1=1 1=4"}, {"xxxxxx|1+4 1=1", 1, 4, "xxxxxx|1+4 1=1 1=4"},
		{"xxxxxx|0+2 3+3", 2, 2, "xxxxxx|0+2 3+3 2=2"}, {"xxxxxx|0+2 3+3 2=2", 1, 2, "xxxxxx|0+2 3+3 2=2 1=2"}, {"xxxxxx|0+2 3+3 2=2 1=2", 2, 9, "xxxxxx|0+2 3+3 2=2 1=2 2=3"},
		{"x|0+1", 1, 1, "x|0+1 1=1"}, {"x|0+1", 1, 2, "x|0+1 1=1"},
	} {
		got, ok := impl.WorkOn(workIn(c.before), c.id, c.many)
		wantWork(t, "WorkOn "+c.before, got, ok, workIn(c.after))
	}
	before := workIn("xxxxxx|1+2 4+2 1=2 2=1")
	for _, id := range []int{0, -1, 1, 3, 4, math.MaxInt, math.MinInt} {
		got, ok := impl.WorkOn(before, id, 1)
		wantNoWork(t, "an Id that is not open", got, ok)
	}
	for _, many := range []int{0, -1, math.MinInt} {
		got, ok := impl.WorkOn(before, 2, many)
		wantNoWork(t, "of so many", got, ok)
	}
	got, ok := impl.WorkOn(workIn("xx|"), 1, 1)
	wantNoWork(t, "no intents", got, ok)
}

func TestWorkOnWithAsManyItemsAsThereMayBe(t *testing.T) {
	for _, b := range []pledges{manyIntents(29), manyDone(28)} {
		next := checkWorkOn(t, b, 1, 1)
		if len(next.items) != 30 {
			t.Fatalf("%d items", len(next.items))
		}
		for id := range 31 {
			got, ok := impl.WorkOn(next.work(), id, 1)
			wantNoWork(t, "the item 31", got, ok)
		}
	}
}

func TestOpenOfByHand(t *testing.T) {
	for _, c := range []struct {
		text string
		open string
		many int
	}{
		{"xxxxxx|", "", 0}, {".|", "", 0}, {"xxxxxx|1+4", "1:1+4=0", 4}, {"xxxxxx|1+4 1=1", "1:1+4=1", 3}, {"xxxxxx|1+4 1=1 1=3", "1:1+4=3", 1},
		{"xxxxxx|1+4 1=4", "", 0}, {"xxxxxx|1+4 1=1 1=2 1=4", "", 0}, {"xxxxxx|0+2 2+2 4+2 2=2", "1:0+2=0 3:4+2=0", 4}, {"xxxxxx|4+2 2+2 0+2 1=1 3=1 1=2", "2:2+2=0 3:0+2=1", 3},
		{"xxxxxx|0+3 1=1 3+3 2=2 1=2", "1:0+3=2 2:3+3=2", 2}, {"xxxxxx|0+3 1=3 3+3 2=3", "", 0}, {".xxxx.|1+2 3+2 2=1", "1:1+2=0 2:3+2=1", 3},
	} {
		var want []impl.Item
		for _, word := range strings.Fields(c.open) {
			id, rest, _ := strings.Cut(word, ":")
			place, upto, _ := strings.Cut(rest, "=")
			at, long := twoIn(place, "+")
			x := intent(numberIn(id), at, long)
			x.Upto = numberIn(upto)
			want = append(want, x)
		}
		wantOpen(t, workIn(c.text), want)
		wantPromised(t, workIn(c.text), c.many)
	}
	for _, text := range []string{"x.xx|0+2", "xxxx|0+2 1+1", "xxxx|0+2 1=3", "xxxx|0+2 1=1 1=1", "xxxx|1=1", "xxxx|0+2 2=1", "xxxx|3+2"} {
		if got, ok := impl.OpenOf(workIn(text)); ok || len(got) != 0 {
			t.Errorf("OpenOf of %s: got %v %v, want the zero answer", text, got, ok)
		}
		got, ok := impl.PromisedIn(workIn(text))
		wantNoNumber(t, "PromisedIn of "+text, got, ok)
	}
}

func TestRecoverWorkByHand(t *testing.T) {
	for _, c := range []struct{ what, before, left, after string }{
		{"nothing", "x.x|", "x.x|", "x.x|"},
		{"its own", "xxxxxx|1+4", "xxxxxx|1+4", "x....x|"},
		{"its own, a part done", "xxxxxx|1+4 1=2", "xxxxxx|1+4 1=2", "x....x|"},
		{"its own, all done", "xxxxxx|1+4 1=2 1=4", "xxxxxx|1+4 1=2 1=4", "x....x|"},
		{"without the last done item", "xxxxxx|1+4 1=2 1=4", "xxxxxx|1+4 1=2", "x....x|"},
		{"without the first done item", "xxxxxx|1+4 1=2 1=4", "xxxxxx|1+4 1=4", "x....x|"},
		{"without done items", "xxxxxx|1+4 1=2 1=4", "xxxxxx|1+4", "x....x|"},
		{"none of them", "xxxxxx|1+4 1=2 1=4", "xxxxxx|", "xxxxxx|"},
		{"the first of two", "xxxxxx|1+2 4+1 1=1", "xxxxxx|1+2", "x..xxx|"},
		{"two, in no order", "xxxxxx|4+1 1+2", "xxxxxx|4+1 1+2", "x..x.x|"},
		{"two that touch", "xxxxxx|3+2 1+2 2=1", "xxxxxx|3+2 1+2 2=1", "x....x|"},
		{"joined on the left", "..xxxx|2+2", "..xxxx|2+2", "....xx|"},
		{"joined on the right", "xxxx..|2+2", "xxxx..|2+2", "xx....|"},
		{"joined on both sides", "..xx.x|2+2 1=1", "..xx.x|2+2 1=1", ".....x|"},
		{"joined with nothing", ".xxxx.|2+2", ".xxxx.|2+2", ".x..x.|"},
		{"all", "xxxxxx|0+6", "xxxxxx|0+6", "......|"},
		{"other intents than its own", "xxxxxx|1+4 1=2", "xxxxxx|0+1 5+1 2=1", ".xxxx.|"},
		{"more than its own", "xxxxxx|", "xxxxxx|2+2 1=1", "xx..xx|"},
		{"the same ones in another order", "xxxxxx|1+2 4+2", "xxxxxx|4+2 1+2", "x..x..|"},
		{"more done than was", "xxxxxx|1+4", "xxxxxx|1+4 1=1 1=3", "x....x|"},
	} {
		got, ok := impl.RecoverWork(workIn(c.before), pledgesIn(c.left).items)
		wantWork(t, c.what, got, ok, workIn(c.after))
	}
	for _, left := range []string{
		"|0+2", "|1+2", "|1+1", "|5+2", "|6+1", "|2+2 3+2", "|1=1", "|2=1", "|2+2 1=3", "|2+2 1=0", "|2+2 1=1 1=1", "|2+2 1=2 1=1", "|2+2 2=1", "|1=1 2+2", "|2+0", "|-1+1",
	} {
		for _, before := range []string{"x.xxxx|", "x.xxxx|2+2", "x.xxxx|2+3 0+1 1=2"} {
			got, ok := impl.RecoverWork(workIn(before), pledgesIn(left).items)
			wantNoWork(t, "RecoverWork of "+left, got, ok)
		}
	}
	for _, text := range []string{"x.xx|0+2", "xxxx|0+2 1+1", "xxxx|0+2 1=3", "xxxx|0+2 1=1 1=1", "xxxx|1=1", "xxxx|3+2"} {
		for _, left := range [][]impl.Item{nil, pledgesIn("|0+1").items, workIn(text).Items} {
			got, ok := impl.RecoverWork(workIn(text), left)
			wantNoWork(t, "RecoverWork of "+text, got, ok)
		}
	}
}

// The Ids of items that are left are 1 and so on, too.
func TestRecoverWorkOfItemsWithoutTheirBeginning(t *testing.T) {
	b := pledgesIn("xxxxxx|0+2 1=1 2+2 2=1 1=2 4+2")
	for from := 1; from <= len(b.items); from++ {
		got, ok := impl.RecoverWork(b.work(), b.items[from:])
		if from < len(b.items) {
			wantNoWork(t, "without the first intent", got, ok)
		} else {
			wantWork(t, "of none", got, ok, workIn("xxxxxx|"))
		}
	}
	for _, items := range [][]impl.Item{manyIntents(31).items, manyDone(30).items, make([]impl.Item, 1), slices.Repeat([]impl.Item{intent(1, 0, 1)}, 2)} {
		got, ok := impl.RecoverWork(manyIntents(0).work(), items)
		wantNoWork(t, "items that are not as said", got, ok)
	}
	for _, b := range []pledges{manyIntents(30), manyDone(29)} {
		got, ok := impl.RecoverWork(manyIntents(0).work(), b.items)
		wantWork(t, "MaxIntents items", got, ok, pledges{blocks: b.freed()}.work())
	}
}

// tightBlocks has so many free blocks, each with three that are not behind it.
func tightBlocks(many int) pledges {
	return pledges{blocks: blocksIn(strings.Repeat(".xxx", many) + strings.Repeat("x", impl.MaxBlocks-4*many))}
}

func TestRecoverWorkWhereRoomIsFull(t *testing.T) {
	full := tightBlocks(impl.MaxExtents)
	got, ok := impl.RecoverWork(full.with(intent(1, 2, 1)).work(), []impl.Item{intent(1, 2, 1)})
	wantNoWork(t, "one more extent than there may be", got, ok)
	got, ok = impl.RecoverWork(full.work(), []impl.Item{intent(1, impl.MaxBlocks-1, 1)})
	wantNoWork(t, "one more, at the end", got, ok)
	for _, x := range extents(1, 1, 3, 1, 1, 3, 1, 2, 2, 2) {
		b := full.with(intent(1, x.At, x.Long))
		got, ok = impl.RecoverWork(b.work(), b.items)
		wantWork(t, "one that is joined", got, ok, pledges{blocks: b.freed()}.work())
	}
	less := tightBlocks(impl.MaxExtents - 1)
	got, ok = impl.RecoverWork(less.work(), []impl.Item{intent(1, 2, 1)})
	wantWork(t, "the last one that there may be", got, ok, pledges{blocks: less.with(intent(1, 2, 1)).freed()}.work())
	got, ok = impl.RecoverWork(less.work(), []impl.Item{intent(1, 2, 1), intent(2, 6, 1)})
	wantNoWork(t, "two more", got, ok)
}

// How many extents there are is asked of the room in the end: on the way there may be more.
func TestRecoverWorkWhereRoomIsFullOnTheWay(t *testing.T) {
	full := tightBlocks(impl.MaxExtents)
	for what, b := range map[string]pledges{
		"a gap from its middle on":       full.with(intent(1, 2, 1), intent(2, 1, 1), intent(3, 3, 1)),
		"a gap from its ends on":         full.with(intent(1, 1, 1), intent(2, 3, 1), intent(3, 2, 1)),
		"one more, and one less":         full.with(intent(1, 2, 1), intent(2, 5, 3)),
		"one less, and one more":         full.with(intent(1, 5, 3), intent(2, 2, 1)),
		"one more ahead, one less":       full.with(intent(1, 6, 1), intent(2, 1, 3)),
		"done in part":                   full.with(intent(1, 2, 1), intent(2, 5, 3), done(2, 1)),
		"done in the other order":        full.with(intent(1, 2, 1), intent(2, 5, 3), done(2, 3), done(1, 1)),
		"many more, and as many less":    gapsOpened(full, 15),
		"one more ahead of all the less": full.with(intent(1, impl.MaxBlocks-1, 1), intent(2, 1, 3)),
	} {
		if len(extentsOf(b.freed(), true)) > impl.MaxExtents {
			t.Fatalf("%s: too many in the end", what)
		}
		got, ok := impl.RecoverWork(b.work(), b.items)
		wantWork(t, what, got, ok, pledges{blocks: b.freed()}.work())
		checkFinish(t, b)
	}
}

// gapsOpened promises a block amidst each of so many gaps, and then as many other gaps wholly.
func gapsOpened(b pledges, many int) pledges {
	for i := range many {
		b = b.with(intent(b.next(), 4*i+2, 1))
	}
	for i := range many {
		b = b.with(intent(b.next(), 4*(many+i)+1, 3))
	}
	return b
}

// intentSteps reads steps: At+Long promises, Id*Many works on, "end" finishes, a number alone is a Kind that is none.
func intentSteps(text string) []impl.IntentStep {
	var l []impl.IntentStep
	for _, word := range strings.Fields(text) {
		switch {
		case word == "end":
			l = append(l, impl.IntentStep{Kind: impl.StepFinish})
		case strings.Contains(word, "*"):
			id, many := twoIn(word, "*")
			l = append(l, impl.IntentStep{Kind: impl.StepWork, Id: id, Many: many})
		case strings.Contains(word, "+"):
			at, long := twoIn(word, "+")
			l = append(l, impl.IntentStep{Kind: impl.StepPromise, Extent: extent(at, long)})
		default:
			l = append(l, impl.IntentStep{Kind: numberIn(word)})
		}
	}
	return l
}

func wantWorkPlayed(t *testing.T, what string, blocks int, l []impl.IntentStep, want impl.Work, told []bool) {
	t.Helper()
	got, did, ok := impl.PlayWork(blocks, l)
	wantWork(t, what, got, ok, want)
	if !slices.Equal(did, told) {
		t.Fatalf("%s: told %v, want %v", what, did, told)
	}
}

func wantNoWorkPlayed(t *testing.T, what string, blocks int, l []impl.IntentStep) {
	t.Helper()
	got, did, ok := impl.PlayWork(blocks, l)
	wantNoWork(t, what, got, ok)
	if len(did) != 0 {
		t.Fatalf("%s: refused, and told %v", what, did)
	}
}

func TestPlayWorkByHand(t *testing.T) {
	for _, c := range []struct{ what, steps, want, told string }{
		{"no steps", "", "xxxxxx|", ""},
		{"a promise", "1+4", "xxxxxx|1+4", "."},
		{"two", "1+2 4+1", "xxxxxx|1+2 4+1", ".."},
		{"worked on", "1+4 1*3", "xxxxxx|1+4 1=3", ".."},
		{"worked on, more than is left", "1+4 1*3 1*2", "xxxxxx|1+4 1=3 1=4", "..."},
		{"finished", "1+4 1*3 end", "x....x|", "..."},
		{"nothing to finish", "end end", "xxxxxx|", ".."},
		{"a promise behind a finish has the Id 1 again", "1+2 4+1 2*1 end 0+1 1*1 3+1 2*1", "x..x.x|0+1 1=1 3+1 2=1", "........"},
		{"finished twice", "1+2 end 3+2 1*1 end", "x....x|", "....."},
		{"all that is refused", "1+2 2+2 2*1 1*0 6+1 1*2 1*1 end 1+1 1*1 3+0 3+1", "x..xxx|3+1", ".xxxx.x.xxx."},
		{"a promise of what was freed", "0+6 end 0+1 5+1 end", "......|", "..xx."},
		{"a Kind that is none", "0 1+2 0 4 1*1 -1 99", "xxxxxx|1+2 1=1", "x.xx.xx"},
		{"only Kinds that are none", "0 4", "xxxxxx|", "xx"},
	} {
		wantWorkPlayed(t, c.what, 6, intentSteps(c.steps), workIn(c.want), blocksIn(c.told))
	}
	wantWorkPlayed(t, "no steps, no nil", 6, []impl.IntentStep{}, workIn("xxxxxx|"), nil)
	wantWorkPlayed(t, "one block", 1, intentSteps("0+1 1*1 end"), workIn(".|"), blocksIn("..."))
	most := impl.Work{Room: impl.Free{Blocks: impl.MaxBlocks}, Next: 2, Items: []impl.Item{intent(1, 0, impl.MaxBlocks)}}
	wantWorkPlayed(t, "as many blocks as there may be", impl.MaxBlocks, intentSteps("0+400"), most, blocksIn("."))
	for _, blocks := range []int{0, -1, impl.MaxBlocks + 1, math.MaxInt, math.MinInt} {
		for _, text := range []string{"", "0+1", "0", "0+1 1*1 end"} {
			wantNoWorkPlayed(t, "blocks that are not as said", blocks, intentSteps(text))
		}
	}
}

// A step looks at what its Kind names alone.
func TestPlayWorkOfStepsThatTellMore(t *testing.T) {
	l := intentSteps("1+2 1*1 end")
	l[0].Id, l[0].Many = 7, -7
	l[1].Extent = extent(-9, -9)
	l[2].Extent, l[2].Id, l[2].Many = extent(3, 3), 9, 9
	wantWorkPlayed(t, "two steps", 6, l[:2], workIn("xxxxxx|1+2 1=1"), blocksIn(".."))
	wantWorkPlayed(t, "three steps", 6, l, workIn("x..xxx|"), blocksIn("..."))
}

func TestPlayWorkOfAsManyStepsAsThereMayBe(t *testing.T) {
	for _, c := range []struct{ step, want, told string }{
		{"end", "xxxxxx|", "."}, {"0", "xxxxxx|", "x"}, {"9+1", "xxxxxx|", "x"}, {"1*1", "xxxxxx|", "x"},
	} {
		l := intentSteps(strings.Repeat(c.step+" ", 121))
		wantWorkPlayed(t, "120 steps", 6, l[:120], workIn(c.want), blocksIn(strings.Repeat(c.told, 120)))
		wantNoWorkPlayed(t, "121 steps", 6, l)
	}
	l := intentSteps(strings.Repeat("0+50 "+strings.Repeat("1*1 ", 31), 4))
	b := manyDone(29)
	told := ".............................." + strings.Repeat("x", 90)
	wantWorkPlayed(t, "full, and on", 100, l[:120], b.work(), blocksIn(told))
	wantNoWorkPlayed(t, "beyond", 100, l)
}

// A finish that Room has no place for is refused, and what was promised stays so.
func TestPlayWorkWhereRoomIsFull(t *testing.T) {
	b := pledges{blocks: make([]bool, impl.MaxBlocks)}
	var l []impl.IntentStep
	for i := range 60 {
		if i%30 == 0 && i > 0 {
			l = append(l, impl.IntentStep{Kind: impl.StepFinish})
			b = checkFinish(t, b)
		}
		l = append(l, impl.IntentStep{Kind: impl.StepPromise, Extent: extent(3*i, 1)})
		b = checkPromise(t, b, extent(3*i, 1))
	}
	l = append(l, intentSteps("end 300+1 end 1*1 302+1 end")...)
	b = checkFinish(t, b)
	b = checkPromise(t, b, extent(300, 1))
	checkFinish(t, b)
	b = checkWorkOn(t, b, 1, 1)
	b = checkPromise(t, b, extent(302, 1))
	told := append(slices.Repeat([]bool{true}, 63), false, true, true, false)
	wantWorkPlayed(t, "60 extents, and one more", impl.MaxBlocks, l, b.work(), told)
}

func TestPlayWorkIsItsSteps(t *testing.T) {
	s := steps(1222)
	for range 200 {
		b := pledges{blocks: make([]bool, 1+s.below(40))}
		var l []impl.IntentStep
		var told []bool
		for range s.below(121) {
			step := impl.IntentStep{Kind: s.below(5), Extent: extent(s.below(len(b.blocks)), s.below(5)), Id: s.below(4), Many: s.below(4)}
			if step.Kind == impl.StepFinish && s.below(3) > 0 {
				step.Kind = impl.StepWork
			}
			next, did := b, false
			switch step.Kind {
			case impl.StepPromise:
				next = checkPromise(t, b, step.Extent)
				did = len(next.items) > len(b.items)
			case impl.StepWork:
				next = checkWorkOn(t, b, step.Id, step.Many)
				did = len(next.items) > len(b.items)
			case impl.StepFinish:
				next, did = checkFinish(t, b), true
			}
			b, l, told = next, append(l, step), append(told, did)
		}
		wantWorkPlayed(t, "some steps", len(b.blocks), l, b.work(), told)
	}
}

// A row of steps as the chapter means it: what was promised is finished once, though the log lost its last items.
func TestTheWholeWayOfAPromise(t *testing.T) {
	w, ok := impl.NewWork(8)
	wantWork(t, "new", w, ok, workIn("xxxxxxxx|"))
	w, id, ok := impl.PromiseFree(w, extent(2, 4))
	wantWork(t, "promised", w, ok, workIn("xxxxxxxx|2+4"))
	wantNumber(t, "its Id", id, ok, 1)
	w, ok = impl.WorkOn(w, id, 3)
	wantWork(t, "worked on", w, ok, workIn("xxxxxxxx|2+4 1=3"))
	wantPromised(t, w, 1)
	w, id, ok = impl.PromiseFree(w, extent(6, 2))
	wantWork(t, "promised again", w, ok, workIn("xxxxxxxx|2+4 1=3 6+2"))
	wantNumber(t, "its Id", id, ok, 2)
	crashed, ok := impl.RecoverWork(w, w.Items[:1])
	wantWork(t, "recovered of what is left", crashed, ok, workIn("xx....xx|"))
	w, ok = impl.RecoverWork(w, w.Items)
	wantWork(t, "recovered of all", w, ok, workIn("xx......|"))
	w, id, ok = impl.PromiseFree(w, extent(0, 1))
	wantWork(t, "promised behind that", w, ok, workIn("xx......|0+1"))
	wantNumber(t, "its Id", id, ok, 1)
}
