package tests

import (
	"math"
	"slices"
	"testing"

	"loop.example/g00261/impl"
)

func goodFreeByTrial(f impl.Free) bool {
	if f.Blocks < 1 || f.Blocks > 400 || len(f.ByPlace) > 60 {
		return false
	}
	blocks := make([]bool, f.Blocks)
	for _, x := range f.ByPlace {
		if !allOf(blocks, x, false) {
			return false
		}
		blocks = withBlocks(blocks, x, true)
	}
	return sameFree(f, freeOf(blocks))
}

// goodWorkByTrial goes by the words of the chapter one by one.
func goodWorkByTrial(w impl.Work) bool {
	if !goodFreeByTrial(w.Room) || len(w.Items) > 30 {
		return false
	}
	b := pledges{blocks: make([]bool, w.Room.Blocks)}
	for _, x := range w.Room.ByPlace {
		b.blocks = withBlocks(b.blocks, x, true)
	}
	for _, x := range w.Items {
		if !mayFollowByTrial(b, x) {
			return false
		}
		b = b.with(x)
	}
	return w.Next == b.next()
}

// mayFollowByTrial: the item may stand behind those that are good already.
func mayFollowByTrial(b pledges, x impl.Item) bool {
	switch x.Kind {
	case 1:
		return x.Id == b.next() && x.Upto == 0 && allOf(b.freed(), x.Extent, false)
	case 2:
		return x.Extent == impl.Extent{} && slices.ContainsFunc(b.intents(), func(y impl.Item) bool {
			return y.Id == x.Id && x.Upto > b.upto(x.Id) && x.Upto <= y.Extent.Long
		})
	}
	return false
}

func copyWork(w impl.Work) impl.Work {
	return impl.Work{
		Room:  impl.Free{Blocks: w.Room.Blocks, ByPlace: slices.Clone(w.Room.ByPlace), BySize: slices.Clone(w.Room.BySize)},
		Next:  w.Next,
		Items: slices.Clone(w.Items),
	}
}

// badItems are rows of items that are in no good work with a room of six blocks, of which block 1 is free.
func badItems() [][]impl.Item {
	withUpto := intent(1, 2, 2)
	withUpto.Upto = 1
	withExtent := done(1, 1)
	withExtent.Extent = extent(2, 2)
	l := [][]impl.Item{
		{{}}, {intent(0, 2, 2)}, {intent(2, 2, 2)}, {intent(1, 2, 2), intent(3, 5, 1)}, {intent(1, 2, 2), intent(1, 5, 1)}, {intent(2, 2, 2), intent(1, 5, 1)},
		{done(1, 1)}, {done(1, 1), intent(1, 2, 2)}, {intent(1, 2, 2), done(2, 1)}, {intent(1, 2, 2), done(0, 1)}, {intent(1, 2, 2), withExtent}, {withUpto},
		{intent(1, 2, 2), done(1, 0)}, {intent(1, 2, 2), done(1, 3)}, {intent(1, 2, 2), done(1, 1), done(1, 1)}, {intent(1, 2, 2), done(1, 2), done(1, 1)}, {intent(1, 2, 2), done(1, -1)},
		{intent(1, 2, 2), intent(2, 3, 1)}, {intent(1, 0, 2)}, {intent(1, 1, 1)}, {intent(1, 5, 2)}, {intent(1, 6, 1)}, {intent(1, -1, 1)}, {intent(1, 2, 0)}, {intent(1, 2, -1)},
		manyIntents(31).items, manyDone(30).items, make([]impl.Item, 30), make([]impl.Item, 100000), slices.Repeat([]impl.Item{intent(1, 2, 2)}, 2),
	}
	for _, n := range oddNumbers() {
		if n < 1 || n > 2 {
			l = append(l, []impl.Item{{Kind: n, Id: 1, Extent: extent(2, 2)}}, []impl.Item{intent(1, 2, 2), {Kind: n, Id: 1, Upto: 1}})
			l = append(l, []impl.Item{intent(1, 2, 2), done(1, n)})
		}
		if n != 1 {
			l = append(l, []impl.Item{intent(n, 2, 2)}, []impl.Item{intent(1, 2, 2), done(n, 1)})
		}
	}
	return l
}

// badWorks are not as said, each in one way.
func badWorks() []impl.Work {
	var l []impl.Work
	for _, f := range badFrees() {
		l = append(l, impl.Work{Room: f, Next: 1}, impl.Work{Room: f, Next: 2, Items: []impl.Item{intent(1, 0, 1)}})
	}
	for _, items := range badItems() {
		l = append(l, pledges{blocks: blocksIn("x.xxxx"), items: items}.work())
	}
	for _, text := range goodWorkTexts() {
		for _, n := range append(oddNumbers(), 29, 30, 31) {
			w := workIn(text)
			if n != w.Next {
				w.Next = n
				l = append(l, w)
			}
		}
	}
	return append(l, impl.Work{}, impl.Work{Next: 1}, impl.Work{Room: freeIn("x")})
}

func wantWorkRefused(t *testing.T, w impl.Work) {
	t.Helper()
	if impl.GoodWork(w) {
		t.Fatalf("%v is good", w)
	}
	for _, x := range extents(0, 1, 2, 1, 5, 1, 0, 0, -1, 1, 399, 1, math.MaxInt, math.MaxInt) {
		got, id, ok := impl.PromiseFree(w, x)
		wantNotPromised(t, "PromiseFree", got, id, ok)
	}
	for _, id := range []int{0, 1, 2, w.Next - 1, w.Next, -1, math.MaxInt, math.MinInt} {
		for _, many := range []int{0, 1, 2, math.MaxInt, math.MinInt} {
			got, ok := impl.WorkOn(w, id, many)
			wantNoWork(t, "WorkOn", got, ok)
		}
	}
	for _, items := range [][]impl.Item{nil, {}, w.Items, {intent(1, 0, 1)}, {intent(1, 2, 1), done(1, 1)}} {
		got, ok := impl.RecoverWork(w, items)
		wantNoWork(t, "RecoverWork", got, ok)
	}
	if l, ok := impl.OpenOf(w); ok || len(l) != 0 {
		t.Fatalf("OpenOf of %v: got %v %v, want the zero answer", w, l, ok)
	}
	n, ok := impl.PromisedIn(w)
	wantNoNumber(t, "PromisedIn", n, ok)
}

func TestBadWorkIsRefused(t *testing.T) {
	for _, w := range badWorks() {
		if goodWorkByTrial(w) {
			t.Fatalf("%v is good by trial", w)
		}
		held := copyWork(w)
		wantWorkRefused(t, w)
		if !sameWork(w, held) {
			t.Fatalf("a refusal wrote into %v", held)
		}
	}
}

// What is left of a log must be as in good work, whatever the work has itself.
func TestBadItemsAreNotRecovered(t *testing.T) {
	for _, items := range badItems() {
		held := slices.Clone(items)
		for _, text := range []string{"x.xxxx|", "x.xxxx|2+2", "x.xxxx|2+2 1=1 5+1 1=2 2=1"} {
			got, ok := impl.RecoverWork(workIn(text), items)
			wantNoWork(t, "RecoverWork", got, ok)
		}
		if !slices.Equal(items, held) {
			t.Fatalf("a refusal wrote into %v", held)
		}
	}
}

// changedItems differ from an item in one field.
func changedItems(x impl.Item) []impl.Item {
	var l []impl.Item
	for _, by := range []int{-2, -1, 1, 2, math.MaxInt, math.MinInt} {
		for field := range 5 {
			y := x
			*[]*int{&y.Kind, &y.Id, &y.Extent.At, &y.Extent.Long, &y.Upto}[field] += by
			l = append(l, y)
		}
	}
	return l
}

// changedWorks differ from a work in one number, one item or one free block.
func changedWorks(w impl.Work) []impl.Work {
	var l []impl.Work
	change := func(by func(c *impl.Work)) {
		c := copyWork(w)
		by(&c)
		l = append(l, c)
	}
	for _, n := range []int{-2, -1, 1, 2, math.MaxInt, math.MinInt} {
		change(func(c *impl.Work) { c.Next += n })
		change(func(c *impl.Work) { c.Room.Blocks += n })
	}
	for i, x := range w.Items {
		for _, y := range append(changedItems(x), impl.Item{}) {
			change(func(c *impl.Work) { c.Items[i] = y })
		}
		change(func(c *impl.Work) { c.Items = slices.Delete(c.Items, i, i+1) })
		change(func(c *impl.Work) { c.Items = slices.Insert(c.Items, i, c.Items[i]) })
		change(func(c *impl.Work) { c.Items[i], c.Items[0] = c.Items[0], c.Items[i] })
	}
	for id := range w.Next + 2 {
		for n := range 5 {
			change(func(c *impl.Work) { c.Items = append(c.Items, done(id, n)) })
			change(func(c *impl.Work) { c.Items, c.Next = append(c.Items, intent(id, n, 1)), c.Next+1 })
		}
	}
	change(func(c *impl.Work) { c.Room = freeIn("x.xxxx") })
	change(func(c *impl.Work) { c.Room = freeIn("......") })
	change(func(c *impl.Work) { c.Room.BySize = nil })
	return l
}

func checkGoodWork(t *testing.T, w impl.Work) {
	t.Helper()
	good := goodWorkByTrial(w)
	if impl.GoodWork(w) != good {
		t.Fatalf("GoodWork of %v: got %v", w, !good)
	}
	if _, ok := impl.OpenOf(w); ok != good {
		t.Fatalf("OpenOf of %v: told %v", w, ok)
	}
	if _, ok := impl.PromisedIn(w); ok != good {
		t.Fatalf("PromisedIn of %v: told %v", w, ok)
	}
	got, ok := impl.RecoverWork(w, w.Items)
	if !good {
		wantNoWork(t, "RecoverWork", got, ok)
	} else if !ok {
		t.Fatalf("RecoverWork of %v is refused", w)
	}
}

func TestGoodWorkIsWhatTheWordsSay(t *testing.T) {
	for _, text := range goodWorkTexts() {
		if !goodWorkByTrial(workIn(text)) {
			t.Errorf("%s is not good by trial", text)
		}
		checkGoodWork(t, workIn(text))
		for _, one := range changedWorks(workIn(text)) {
			checkGoodWork(t, one)
		}
	}
	for _, text := range []string{"xxxxxx|0+3 1=2 3+3 2=1 1=3", "x.xx.x|0+1 2+2 5+1 2=1"} {
		for _, one := range changedWorks(workIn(text)) {
			for _, two := range changedWorks(one) {
				checkGoodWork(t, two)
			}
		}
	}
}

// fewItems are all that may or may not stand in work of three blocks.
func fewItems() []impl.Item {
	l := []impl.Item{{}, {Kind: 3, Id: 1}}
	for id := range 4 {
		l = append(l, intent(id, 0, 1), intent(id, 1, 2), done(id, 1), done(id, 2))
	}
	return l
}

func TestWorkOfFewItemsInAllWays(t *testing.T) {
	for many := range 5 {
		for _, items := range rowsOf(many, fewItems()...) {
			b := pledges{blocks: make([]bool, 3), items: items}
			checkGoodWork(t, b.work())
		}
	}
}

func TestOddNumbersInWork(t *testing.T) {
	for _, n := range oddNumbers() {
		got, ok := impl.NewWork(n)
		if n < 1 || n > 400 {
			wantNoWork(t, "NewWork", got, ok)
			wantNoWorkPlayed(t, "PlayWork", n, intentSteps("0+1"))
		} else {
			wantWork(t, "NewWork", got, ok, impl.Work{Room: impl.Free{Blocks: n}, Next: 1})
		}
		for _, text := range goodWorkTexts() {
			b := pledgesIn(text)
			for _, m := range []int{0, 1, 2, -1, math.MaxInt, math.MinInt, n} {
				checkPromise(t, b, extent(n, m))
				checkPromise(t, b, extent(m, n))
				checkWorkOn(t, b, n, m)
				checkWorkOn(t, b, m, n)
			}
		}
		l := []impl.IntentStep{{Kind: n, Extent: extent(n, n), Id: n, Many: n}, {Kind: 1, Extent: extent(n, 1)}, {Kind: 1, Extent: extent(1, n)}, {Kind: 2, Id: n, Many: 1}, {Kind: 2, Id: 1, Many: n}, {Kind: n}}
		if got, did, ok := impl.PlayWork(5, l); !ok || len(did) != len(l) || !impl.GoodWork(got) {
			t.Fatalf("PlayWork of %v: got %v %v %v", l, got, did, ok)
		}
	}
}

// roomyWork has room behind each of its lists, with what would be good there and is none of it.
func roomyWork(text string) impl.Work {
	w := workIn(text)
	behind := extents(77, 7, 78, 8)
	w.Room.ByPlace = withRoom(w.Room.ByPlace, behind...)
	w.Room.BySize = withRoom(w.Room.BySize, behind...)
	w.Items = roomyItems(w.Items)
	return w
}

func roomyItems(l []impl.Item) []impl.Item {
	return withRoom(l, intent(77, 7, 7), done(77, 7))
}

func itemsOfWork(w impl.Work) [][]impl.Item {
	return [][]impl.Item{w.Items}
}

func wantRoomyWork(t *testing.T, what string, w impl.Work, text string) {
	t.Helper()
	wantAsFresh(t, what, listsOfFree(w.Room), listsOfFree(roomyWork(text).Room))
	wantAsFresh(t, what, itemsOfWork(w), itemsOfWork(roomyWork(text)))
}

// wantWorkApart: each list of an answer is its own.
func wantWorkApart(t *testing.T, what string, w impl.Work, text string, answer impl.Work) {
	t.Helper()
	wantListsApart(t, what, listsOfFree(w.Room), listsOfFree(roomyWork(text).Room), listsOfFree(answer.Room), extent(-9, -9))
	wantListsApart(t, what, itemsOfWork(w), itemsOfWork(roomyWork(text)), itemsOfWork(answer), done(-9, -9))
}

// stepsOnWork are steps with a list of items that has room behind its length.
func stepsOnWork() map[string]func(w impl.Work, items []impl.Item) (impl.Work, bool) {
	return map[string]func(w impl.Work, items []impl.Item) (impl.Work, bool){
		"PromiseFree": func(w impl.Work, _ []impl.Item) (impl.Work, bool) {
			got, _, ok := impl.PromiseFree(w, extent(w.Room.Blocks-1, 1))
			return got, ok
		},
		"WorkOn":                   func(w impl.Work, _ []impl.Item) (impl.Work, bool) { return impl.WorkOn(w, 1, 1) },
		"RecoverWork":              impl.RecoverWork,
		"RecoverWork of its own":   func(w impl.Work, _ []impl.Item) (impl.Work, bool) { return impl.RecoverWork(w, w.Items) },
		"RecoverWork of none":      func(w impl.Work, l []impl.Item) (impl.Work, bool) { return impl.RecoverWork(w, l[:0]) },
		"RecoverWork of its first": func(w impl.Work, l []impl.Item) (impl.Work, bool) { return impl.RecoverWork(w, l[:min(1, len(l))]) },
	}
}

func TestWorkAnswersAreNewMemory(t *testing.T) {
	told := map[string]int{}
	for _, text := range goodWorkTexts() {
		for name, step := range stepsOnWork() {
			plain, isPlain := step(workIn(text), workIn(text).Items)
			w, items := roomyWork(text), roomyItems(workIn(text).Items)
			got, ok := step(w, items)
			if ok != isPlain || !sameWork(got, plain) {
				t.Fatalf("%s of %s: what lies behind a length counts: got %v %v", name, text, got, ok)
			}
			wantRoomyWork(t, name, w, text)
			wantAsFresh(t, name, [][]impl.Item{items}, itemsOfWork(roomyWork(text)))
			spoil(items, done(-9, -9))
			if ok {
				told[name]++
				wantWork(t, name+", its list spoilt", got, ok, plain)
				wantWorkApart(t, name+" of "+text, w, text, got)
			}
		}
	}
	for name := range stepsOnWork() {
		if told[name] < 3 {
			t.Errorf("%s told true %d times", name, told[name])
		}
	}
}

func TestQuestionsWriteIntoNoWork(t *testing.T) {
	for _, text := range goodWorkTexts() {
		w := roomyWork(text)
		for range 2 {
			l, ok := impl.OpenOf(w)
			if !ok || !slices.Equal(l, pledgesIn(text).open()) || slices.Contains(l[:cap(l)], intent(77, 7, 7)) {
				t.Fatalf("OpenOf of %s: got %v %v", text, l, ok)
			}
			spoil(l, done(-9, -9))
			wantPromised(t, w, pledgesIn(text).promised())
			if !impl.GoodWork(w) {
				t.Fatalf("%s is not good", text)
			}
			wantRoomyWork(t, "asked", w, text)
		}
	}
}

// What is not good by its length alone is not made good by what lies behind it, nor the other way.
func TestListsOfWorkEndAtTheirLength(t *testing.T) {
	full := manyIntents(31).work()
	full.Items, full.Next = full.Items[:30], 31
	if !impl.GoodWork(full) {
		t.Error("an item behind as many as there may be makes it bad")
	}
	got, id, ok := impl.PromiseFree(full, extent(90, 1))
	wantNotPromised(t, "PromiseFree", got, id, ok)
	w := workIn("xxxxxx|0+3 3+3")
	w.Items = w.Items[:1]
	wantWorkRefused(t, w)
	w.Next = 2
	if !impl.GoodWork(w) {
		t.Error("an intent behind the length makes it bad")
	}
	wantOpen(t, w, []impl.Item{intent(1, 0, 3)})
	next := checkPromise(t, pledgesIn("xxxxxx|0+3"), extent(4, 1))
	got, id, ok = impl.PromiseFree(w, extent(4, 1))
	wantWork(t, "PromiseFree", got, ok, next.work())
	wantNumber(t, "PromiseFree", id, ok, 2)
}

// Steps from one work do not meet in its lists.
func TestTwoStepsFromOneWork(t *testing.T) {
	text := ".xxxx.xxx|1+3 1=1"
	w := roomyWork(text)
	one, _, okOne := impl.PromiseFree(w, extent(4, 1))
	two, _, okTwo := impl.PromiseFree(w, extent(6, 2))
	three, okThree := impl.WorkOn(w, 1, 1)
	four, okFour := impl.WorkOn(w, 1, 2)
	five, okFive := impl.RecoverWork(w, w.Items)
	six, okSix := impl.RecoverWork(w, nil)
	wantWork(t, "the first", one, okOne, workIn(".xxxx.xxx|1+3 1=1 4+1"))
	wantWork(t, "the second", two, okTwo, workIn(".xxxx.xxx|1+3 1=1 6+2"))
	wantWork(t, "the third", three, okThree, workIn(".xxxx.xxx|1+3 1=1 1=2"))
	wantWork(t, "the fourth", four, okFour, workIn(".xxxx.xxx|1+3 1=1 1=3"))
	wantWork(t, "the fifth", five, okFive, workIn("....x.xxx|"))
	wantWork(t, "the sixth", six, okSix, workIn(".xxxx.xxx|"))
	spoil(one.Items, done(-9, -9))
	spoil(five.Room.ByPlace, extent(-9, -9))
	spoil(six.Room.BySize, extent(-9, -9))
	wantWork(t, "the second, others spoilt", two, okTwo, workIn(".xxxx.xxx|1+3 1=1 6+2"))
	wantRoomyWork(t, "all six", w, text)
}

func TestPlayedWorkIsNewMemory(t *testing.T) {
	text := "1+2 9+9 1*1 end 3+1 4+1 2*1"
	behind := impl.IntentStep{Kind: impl.StepFinish}
	l := withRoom(intentSteps(text), behind, behind)
	want, told := workIn("x..xxx|3+1 4+1 2=1"), blocksIn(".x.....")
	one, did, ok := impl.PlayWork(6, l)
	if !slices.Equal(wholeOf(l), append(intentSteps(text), behind, behind)) {
		t.Fatalf("PlayWork wrote into %v", wholeOf(l))
	}
	spoil(l, impl.IntentStep{Kind: 9})
	wantWork(t, "PlayWork", one, ok, want)
	if !slices.Equal(did, told) {
		t.Fatalf("told %v", did)
	}
	spoil(one.Room.ByPlace, extent(-9, -9))
	if !slices.Equal(one.Room.BySize, want.Room.BySize) {
		t.Error("the lists of the room share memory")
	}
	spoil(one.Room.BySize, extent(-9, -9))
	spoil(one.Items, done(-9, -9))
	spoil(did, true)
	wantWorkPlayed(t, "again", 6, intentSteps(text), want, told)
}

func TestNewWorksShareNothing(t *testing.T) {
	one, _ := impl.NewWork(3)
	spoil(one.Room.ByPlace, extent(-9, -9))
	spoil(one.Room.BySize, extent(-9, -9))
	spoil(one.Items, done(-9, -9))
	two, ok := impl.NewWork(3)
	wantWork(t, "the second", two, ok, workIn("xxx|"))
}
