package tests

import (
	"slices"
	"strings"
	"testing"

	"loop.example/g00261/impl"
)

// pledges is work whose room is told block by block.
type pledges struct {
	blocks []bool
	items  []impl.Item
}

func intent(id int, at int, long int) impl.Item {
	return impl.Item{Kind: impl.LogIntent, Id: id, Extent: extent(at, long)}
}

func done(id int, upto int) impl.Item {
	return impl.Item{Kind: impl.LogDone, Id: id, Upto: upto}
}

// twoIn reads the numbers at both sides of a sign.
func twoIn(word string, sign string) (int, int) {
	a, b, _ := strings.Cut(word, sign)
	return numberIn(a), numberIn(b)
}

// pledgesIn reads blocks as freeIn does, and behind '|' items: At+Long is the next intent, Id=Upto is a done item.
func pledgesIn(text string) pledges {
	blocks, rest, _ := strings.Cut(text, "|")
	b := pledges{blocks: blocksIn(blocks)}
	for _, word := range strings.Fields(rest) {
		if strings.Contains(word, "=") {
			b = b.with(done(twoIn(word, "=")))
			continue
		}
		at, long := twoIn(word, "+")
		b = b.with(intent(b.next(), at, long))
	}
	return b
}

func workIn(text string) impl.Work {
	return pledgesIn(text).work()
}

func (b pledges) with(l ...impl.Item) pledges {
	b.items = slices.Concat(b.items, l)
	return b
}

func (b pledges) intents() []impl.Item {
	var l []impl.Item
	for _, x := range b.items {
		if x.Kind == impl.LogIntent {
			l = append(l, x)
		}
	}
	return l
}

func (b pledges) next() int {
	return len(b.intents()) + 1
}

func (b pledges) work() impl.Work {
	return impl.Work{Room: freeOf(b.blocks), Next: b.next(), Items: slices.Clone(b.items)}
}

// upto is what the last done item of an Id tells.
func (b pledges) upto(id int) int {
	upto := 0
	for _, x := range b.items {
		if x.Kind == impl.LogDone && x.Id == id {
			upto = x.Upto
		}
	}
	return upto
}

func (b pledges) open() []impl.Item {
	var l []impl.Item
	for _, x := range b.intents() {
		x.Upto = b.upto(x.Id)
		if x.Upto < x.Extent.Long {
			l = append(l, x)
		}
	}
	return l
}

// promised counts block by block.
func (b pledges) promised() int {
	many := 0
	for _, x := range b.intents() {
		for i := range x.Extent.Long {
			if i >= b.upto(x.Id) {
				many++
			}
		}
	}
	return many
}

// freed are the blocks behind all that is promised.
func (b pledges) freed() []bool {
	blocks := b.blocks
	for _, x := range b.intents() {
		blocks = withBlocks(blocks, x.Extent, true)
	}
	return blocks
}

func sameWork(a impl.Work, b impl.Work) bool {
	return sameFree(a.Room, b.Room) && a.Next == b.Next && slices.Equal(a.Items, b.Items)
}

func wantWork(t *testing.T, what string, got impl.Work, ok bool, want impl.Work) {
	t.Helper()
	if !ok || !sameWork(got, want) || !impl.GoodWork(got) {
		t.Fatalf("%s: got %v %v, want %v", what, got, ok, want)
	}
}

func wantNoWork(t *testing.T, what string, got impl.Work, ok bool) {
	t.Helper()
	if ok || !sameWork(got, impl.Work{}) {
		t.Fatalf("%s: got %v %v, want the zero answer", what, got, ok)
	}
}

func wantNotPromised(t *testing.T, what string, got impl.Work, id int, ok bool) {
	t.Helper()
	wantNoWork(t, what, got, ok)
	if id != 0 {
		t.Fatalf("%s: refused, and tells %d", what, id)
	}
}

func wantOpen(t *testing.T, w impl.Work, want []impl.Item) {
	t.Helper()
	if got, ok := impl.OpenOf(w); !ok || !slices.Equal(got, want) {
		t.Fatalf("OpenOf of %v: got %v %v, want %v", w, got, ok, want)
	}
}

func wantPromised(t *testing.T, w impl.Work, want int) {
	t.Helper()
	if got, ok := impl.PromisedIn(w); !ok || got != want {
		t.Fatalf("PromisedIn of %v: got %d %v, want %d", w, got, ok, want)
	}
}

func checkPledges(t *testing.T, b pledges) {
	t.Helper()
	if !impl.GoodWork(b.work()) {
		t.Fatalf("not good: %v", b.work())
	}
	wantOpen(t, b.work(), b.open())
	wantPromised(t, b.work(), b.promised())
}

func checkPromise(t *testing.T, b pledges, x impl.Extent) pledges {
	t.Helper()
	got, id, ok := impl.PromiseFree(b.work(), x)
	if !allOf(b.freed(), x, false) || len(b.items) == 30 {
		wantNotPromised(t, "PromiseFree", got, id, ok)
		return b
	}
	next := b.with(intent(b.next(), x.At, x.Long))
	wantWork(t, "PromiseFree", got, ok, next.work())
	wantNumber(t, "PromiseFree", id, ok, b.next())
	wantPromised(t, got, b.promised()+x.Long)
	checkPledges(t, next)
	return next
}

func checkWorkOn(t *testing.T, b pledges, id int, many int) pledges {
	t.Helper()
	got, ok := impl.WorkOn(b.work(), id, many)
	at := slices.IndexFunc(b.open(), func(x impl.Item) bool { return x.Id == id })
	if at < 0 || many < 1 || len(b.items) == 30 {
		wantNoWork(t, "WorkOn", got, ok)
		return b
	}
	did := min(many, b.open()[at].Extent.Long-b.upto(id))
	next := b.with(done(id, b.upto(id)+did))
	wantWork(t, "WorkOn", got, ok, next.work())
	wantPromised(t, got, b.promised()-did)
	checkPledges(t, next)
	return next
}

// checkFinish: each block that was promised is free, once, and no other changed, whatever of it was done.
func checkFinish(t *testing.T, b pledges) pledges {
	t.Helper()
	next := pledges{blocks: b.freed()}
	tooMany := len(extentsOf(next.blocks, true)) > impl.MaxExtents
	for _, left := range [][]impl.Item{b.items, withoutDone(b.items)} {
		got, ok := impl.RecoverWork(b.work(), left)
		if tooMany {
			wantNoWork(t, "RecoverWork", got, ok)
			continue
		}
		wantWork(t, "RecoverWork", got, ok, next.work())
		checkFreedOnce(t, b, blocksOf(t, got.Room))
		for _, x := range b.intents() {
			again, id, ok := impl.PromiseFree(got, x.Extent)
			wantNotPromised(t, "what is free is promised again", again, id, ok)
		}
	}
	if tooMany {
		return b
	}
	checkPledges(t, next)
	return next
}

// checkFreedOnce goes from block to block: one more is free for each that an intent names, and only there.
func checkFreedOnce(t *testing.T, b pledges, after []bool) {
	t.Helper()
	for i, is := range after {
		named := 0
		for _, x := range b.intents() {
			if i >= x.Extent.At && i < x.Extent.At+x.Extent.Long {
				named++
			}
		}
		if named > 1 || b.blocks[i] && named == 1 || is != (b.blocks[i] || named == 1) {
			t.Fatalf("block %d: was free %v, named %d times, is free %v", i, b.blocks[i], named, is)
		}
	}
}

func withoutDone(items []impl.Item) []impl.Item {
	return slices.DeleteFunc(slices.Clone(items), func(x impl.Item) bool { return x.Kind == impl.LogDone })
}

// fewerDone are the items without each of the sets of done items that the bits of a number tell.
func fewerDone(items []impl.Item, bits int) []impl.Item {
	var l []impl.Item
	number := 0
	for _, x := range items {
		if x.Kind == impl.LogDone {
			number++
			if bits>>(number-1)&1 == 1 {
				continue
			}
		}
		l = append(l, x)
	}
	return l
}

// checkFewer: with fewer of the done items the same comes of it; of the beginning of the log what its intents promise.
func checkFewer(t *testing.T, s *steps, b pledges) {
	t.Helper()
	whole, okWhole := impl.RecoverWork(b.work(), b.items)
	many := len(b.items) - len(b.intents())
	tries := min(1<<min(many, 20), 16)
	for try := range tries {
		bits := try
		if many > 4 {
			bits = s.below(1 << 20)
		}
		got, ok := impl.RecoverWork(b.work(), fewerDone(b.items, bits))
		if ok != okWhole || !sameWork(got, whole) {
			t.Fatalf("of %v without the done items %b: got %v %v, want %v", b.items, bits, got, ok, whole)
		}
	}
	for end := range len(b.items) + 1 {
		left := pledges{blocks: b.blocks, items: b.items[:end]}
		got, ok := impl.RecoverWork(b.work(), left.items)
		if len(extentsOf(left.freed(), true)) > impl.MaxExtents {
			wantNoWork(t, "RecoverWork of the beginning", got, ok)
			continue
		}
		wantWork(t, "RecoverWork of the beginning", got, ok, pledges{blocks: left.freed()}.work())
	}
}

// didIntentStep reads a step of the texts that pledgesIn reads, "end" finishing all.
func didIntentStep(t *testing.T, b pledges, step string) pledges {
	t.Helper()
	if step == "end" {
		return checkFinish(t, b)
	}
	if strings.Contains(step, "=") {
		id, many := twoIn(step, "=")
		return checkWorkOn(t, b, id, many)
	}
	at, long := twoIn(step, "+")
	return checkPromise(t, b, extent(at, long))
}

func TestWorkOfFewStepsInAllWays(t *testing.T) {
	s := steps(12)
	for _, blocks := range []string{"xxxx", ".xxxx", "xx.x"} {
		for _, row := range rowsOf(4, "0+2", "1+1", "1+2", "2+2", "3+1", "0+4", "1=1", "1=2", "2=1", "end") {
			b := pledgesIn(blocks)
			for _, step := range row {
				b = didIntentStep(t, b, step)
			}
			checkFinish(t, b)
			checkFewer(t, &s, b)
		}
	}
}

// All ways to do a promise in parts: whatever of it was done, it is freed once.
func TestAPromiseIsKeptOnceWhateverWasDone(t *testing.T) {
	for _, room := range []string{"xxxxxxxx", ".xxxxxxx", "x.xxxxxx", "xxxxxxx.", ".xxxxxx.", "x.xxxxx."} {
		for long := 1; long <= 5; long++ {
			for _, dones := range patterns(long) {
				b := checkPromise(t, pledgesIn(room), extent(2, long))
				for i, is := range dones {
					if is {
						b = checkWorkOn(t, b, 1, i+1-b.upto(1))
					}
				}
				checkFinish(t, b)
			}
		}
	}
}

// someWork is good work that perhaps no row of steps leads to: any room, any intents in what is not free, any of it done.
func someWork(s *steps, blocks int, run int, most int) pledges {
	b := pledges{blocks: someBlocks(s, blocks, run)}
	for len(extentsOf(b.blocks, true)) > impl.MaxExtents {
		b.blocks = someBlocks(s, blocks, run)
	}
	for range most {
		x := extent(s.below(blocks), 1+s.below(run))
		if s.below(2) == 0 && allOf(b.freed(), x, false) {
			b = b.with(intent(b.next(), x.At, x.Long))
			continue
		}
		if open := b.open(); len(open) > 0 {
			y := open[s.below(len(open))]
			b = b.with(done(y.Id, y.Upto+1+s.below(y.Extent.Long-y.Upto)))
		}
	}
	return b
}

func TestWorkInNoOrder(t *testing.T) {
	s := steps(122)
	for range 1500 {
		b := someWork(&s, 1+s.below(impl.MaxBlocks), 8+s.below(12), s.below(31))
		checkPledges(t, b)
		checkFewer(t, &s, b)
		checkFinish(t, b)
		for range 5 {
			checkPromise(t, b, extent(s.below(len(b.blocks)), 1+s.below(9)))
			checkWorkOn(t, b, s.below(b.next()+1), s.below(9))
		}
	}
}

// What is promised is open till all of it is done, and falls by what was done.
func TestARowOfIntentSteps(t *testing.T) {
	for seed := range 60 {
		s := steps(1200 + seed)
		b := pledges{blocks: make([]bool, 1+s.below(impl.MaxBlocks))}
		w, ok := impl.NewWork(len(b.blocks))
		wantWork(t, "NewWork", w, ok, b.work())
		for range 150 {
			switch s.below(12) {
			case 0:
				b = checkFinish(t, b)
			case 1, 2, 3, 4, 5:
				b = checkPromise(t, b, extent(s.below(len(b.blocks)), 1+s.below(7)))
			default:
				b = checkWorkOn(t, b, 1+s.below(b.next()), s.below(5))
			}
		}
		checkFewer(t, &s, b)
	}
}

// A log of nothing but one promise that is done block by block, up to as many items as there may be.
func TestAPromiseThatIsDoneBlockByBlock(t *testing.T) {
	s := steps(1212)
	for _, long := range []int{1, 2, 28, 29, 30, 31, impl.MaxBlocks} {
		b := checkPromise(t, pledges{blocks: make([]bool, impl.MaxBlocks)}, extent(impl.MaxBlocks-long, long))
		for range 31 {
			checkFinish(t, b)
			b = checkWorkOn(t, b, 1, 1)
		}
		if want := min(long, 29); len(b.items) != 1+want || b.upto(1) != want {
			t.Fatalf("%d items, up to %d, want %d", len(b.items), b.upto(1), want)
		}
		checkFewer(t, &s, b)
		checkFinish(t, b)
	}
}
