package tests

import (
	"math"
	"slices"
	"strings"
	"testing"

	"loop.example/g00261/impl"
)

// wholeByTrial: a slot as said, with its Sum. A Sum of 0 alone does not make one of what is none.
func wholeByTrial(s impl.Slot) bool {
	return s.Cycle >= 0 && s.Cycle <= 1000000 && s.Tail >= 0 && s.Tail <= 10000000 && len(s.Data) <= 12 && s.Sum == sumByTrial(s)
}

// recordAt looks for the record of a slot: one that counts, else the last one ahead of these, -1 where there was none.
func recordAt(r impl.Ring, place int) (int, bool) {
	for number := r.Tail; number < r.Head; number++ {
		if number%len(r.Slots) == place {
			return number, true
		}
	}
	for number := r.Tail - 1; number >= 0 && number >= r.Tail-len(r.Slots); number-- {
		if number%len(r.Slots) == place {
			return number, false
		}
	}
	return -1, false
}

// goodRingByTrial goes by the words of the chapter one by one.
func goodRingByTrial(r impl.Ring) bool {
	many := len(r.Slots)
	if many < 2 || many > 24 || r.Head < 0 || r.Head > 10000000 || r.Tail < 0 || r.Tail > r.Head || r.Head-r.Tail > many || r.Cycle != r.Head/many+1 {
		return false
	}
	tails := map[int]int{}
	for place, s := range r.Slots {
		number, counts := recordAt(r, place)
		if !counts && s == withSum(impl.Slot{}) {
			continue
		}
		if number < 0 || !wholeByTrial(s) || s.Cycle != number/many+1 || s.Tail > number || s.Tail > r.Tail {
			return false
		}
		tails[number] = s.Tail
	}
	for a, tail := range tails {
		for b, other := range tails {
			if a < b && tail > other {
				return false
			}
		}
	}
	return true
}

// openByTrial goes by the words of the chapter one by one.
func openByTrial(slots []impl.Slot) (impl.Ring, bool) {
	many := len(slots)
	if many < 2 || many > 24 {
		return impl.Ring{}, false
	}
	lies := map[int]impl.Slot{}
	greatest := -1
	for place, s := range slots {
		if wholeByTrial(s) && s.Cycle > 0 {
			number := (s.Cycle-1)*many + place
			lies[number] = s
			greatest = max(greatest, number)
		}
	}
	r := blankRing(many)
	if greatest < 0 {
		return r, true
	}
	tail := lies[greatest].Tail
	number := greatest
	for ; lies[number].Cycle > 0; number-- {
		r.Slots[number%many] = lies[number]
	}
	r = ringAt(greatest+1, max(tail, number+1), r.Slots)
	if !goodRingByTrial(r) {
		return impl.Ring{}, false
	}
	return r, true
}

// goodRingTexts are rings that are good, each in its own way.
func goodRingTexts() []string {
	return []string{
		"0 0: _ _", "0 0: _ _ _", "1 0: 1/0/a _", "1 1: 1/0/a _", "1 1: _ _ _", "2 0: 1/0/a 1/0/b", "2 2: 1/0/a 1/0/b", "2 2: 1/0/a 1/1/b", "2 1: _ 1/0/b",
		"3 1: 2/1/c 1/0/b", "3 1: 2/1/c 1/1/b", "3 3: _ _", "3 2: 2/2/c _", "3 3: 2/2/c _", "3 3: _ 1/1/b", "3 0: 1/0/a 1/0/b 1/0/c",
		"4 2: 2/2/d 1/0/b 1/0/c", "4 2: 2/2/d _ 1/1/c", "4 4: 2/2/d 1/1/b 1/1/c", "4 4: 2/2/d _ 1/1/c", "4 4: 2/2/d 1/0/b _", "4 4: _ _ _",
		"6 3: 2/3/d 2/3/e 2/3/f", "6 4: 2/3/d 2/4/e 2/4/f", "7 6: 3/5/g 2/3/e 2/5/f", "7 4: 3/4/g 2/2/e 2/3/f",
		"5 2: 2/2/ 1/0/abcdefghijkl 1/0/c 1/0/d", "5 5: 2/1/e _ 1/0/c _",
		"10000000 10000000: _ _", "10000000 10000000: _ _ _", "1999999 1999998: 1000000/1999998/a 999999/1999997/b",
		"2000000 1999998: 1000000/1999998/a 1000000/1999998/b", "2000001 2000001: _ 1000000/1999999/b", "2000001 2000001: _ _", "3000002 3000002: _ _ 1000000/2999999/c",
	}
}

// badRings are not as said, each in one way.
func badRings() map[string]impl.Ring {
	l := map[string]impl.Ring{
		"nothing": {}, "no slots": {Cycle: 1}, "one slot": ringIn("0 0: _"), "one slot, a record": ringIn("1 0: 1/0/a"),
		"one more than MaxRing": blankRing(impl.MaxRing + 1), "many more": blankRing(100000),
		"Head -1": {Slots: slotsIn("_ _"), Head: -1, Cycle: 1, Tail: -1}, "Head and Cycle less": {Slots: slotsIn("_ _"), Head: -2, Tail: -2},
		"Head one more": ringIn("10000001 10000001: _ _"), "Tail -1": ringIn("1 -1: 1/0/a _"), "Tail -1, Head 0": ringIn("0 -1: _ _"),
		"Tail beyond Head": ringIn("1 2: 1/0/a _"), "Tail beyond Head, blank": ringIn("0 1: _ _"),
		"more records than slots": ringIn("3 0: 2/0/c 1/0/b"), "one more of three": ringIn("4 0: 2/0/d 1/0/b 1/0/c"),
		"a Cycle of 0": {Slots: slotsIn("_ _")}, "a Cycle of 2": {Slots: slotsIn("_ _"), Cycle: 2}, "a Cycle of -1": {Slots: slotsIn("_ _"), Cycle: -1},
		"the Cycle of the last record": {Slots: slotsIn("1/0/a 1/0/b"), Head: 2, Cycle: 1}, "a Cycle beyond": {Slots: slotsIn("1/0/a 1/0/b"), Head: 2, Cycle: 3},
		"a torn record": ringIn("1 0: 1/0/a! _"), "a torn record, the second": ringIn("2 0: 1/0/a 1/0/b!"), "a torn record, the first": ringIn("2 0: 1/0/a! 1/0/b"),
		"a blank one that counts": ringIn("1 0: _ _"), "a blank one of two that counts": ringIn("2 0: _ 1/0/b"), "Cycle 0 that counts": ringIn("1 0: 0/0/a _"),
		"an older Cycle that counts": ringIn("3 2: 1/0/a 1/0/b"), "a later Cycle that counts": ringIn("1 0: 2/0/a _"), "a much later one": ringIn("1 0: 1000000/0/a _"),
		"torn ahead of Tail": ringIn("2 1: 1/0/a! 1/1/b"), "torn ahead of Tail, all": ringIn("1 1: 1/0/a! _"), "blank with another Sum": ringIn("2 1: 0/0/! 1/1/b"),
		"Cycle 0 with data ahead of Tail": ringIn("2 1: 0/0/a 1/1/b"), "Cycle 0 with a Tail ahead of Tail": ringIn("2 1: 0/1/ 1/1/b"),
		"an older Cycle ahead of Tail": ringIn("4 3: 1/0/a 2/3/d"), "a later Cycle ahead of Tail": ringIn("2 1: 2/0/a 1/1/b"),
		"not zero where there was none": ringIn("1 0: 1/0/a 1/0/b"), "Cycle 0 with data where there was none": ringIn("1 0: 1/0/a 0/0/b"),
		"a Tail where there was none": ringIn("2 1: 1/0/a 1/1/b 0/1/"), "another Sum where there was none": ringIn("0 0: _ 0/0/!"), "a Sum of 0": {Slots: []impl.Slot{{}, {}}, Cycle: 1},
		"a Tail more than its record": ringIn("2 2: 1/1/a 1/1/b"), "more than its record, the last": ringIn("2 2: 1/0/a 1/2/b"), "more than its record, and it counts": ringIn("2 1: _ 1/2/b"),
		"a Tail more than the ring's": ringIn("2 0: 1/0/a 1/1/b"), "more than the ring's, later": ringIn("4 2: 2/3/d 1/0/b 1/0/c"),
		"Tails fall": ringIn("3 2: 2/0/c 1/1/b"), "Tails fall, ahead of Tail": ringIn("3 3: 1/0/a 1/1/b 1/0/c"), "Tails fall over a blank one": ringIn("4 4: 2/0/d _ 1/1/c"), "Tails fall, the first two": ringIn("4 3: 2/2/d 1/1/b 1/0/c"),
		"a negative Tail": ringIn("1 0: 1/-1/a _"), "a negative Cycle": ringIn("1 1: -1/0/a _"), "data too long": ringIn("1 0: 1/0/abcdefghijklm _"),
		"data too long where it counts no more": ringIn("1 1: 1/0/abcdefghijklm _"), "a Cycle beyond, with another Sum": ringIn("2000001 2000000: 1000001/2000000/a! _"),
		"a Cycle beyond a slot's": ringIn("2000001 2000000: 1000001/2000000/a _"), "a Cycle beyond ahead of Tail": ringIn("2000001 2000001: 1000001/2000000/a _"),
		"a Cycle beyond, the last of two": ringIn("2000001 2000000: 1000001/2000000/a 1000000/1999999/b"), "Cycles beyond, all": ringIn("3000003 3000001: 1000001/3000000/a 1000001/3000000/b 1000001/3000001/c"),
		"Cycles beyond, the greatest Head": ringIn("10000000 9999998: 5000000/9999998/a 5000000/9999998/b"), "a Cycle beyond of nine slots": ringIn("9000001 9000000: 1000001/9000000/a _ _ _ _ _ _ _ _"),
		"a Cycle beyond where the record is of a lesser one": ringIn("1999999 1999998: 1000001/1999998/a _"),
	}
	for what, n := range map[string]int{"most": math.MaxInt, "least": math.MinInt, "nearly most": math.MaxInt - 1, "nearly least": math.MinInt + 1} {
		l["Head "+what] = impl.Ring{Slots: slotsIn("_ _"), Head: n, Cycle: n/2 + 1}
		l["Tail "+what] = impl.Ring{Slots: slotsIn("1/0/a _"), Head: 1, Cycle: 1, Tail: n}
		l["Cycle "+what] = impl.Ring{Slots: slotsIn("_ _"), Cycle: n}
		l["Head and Tail "+what] = impl.Ring{Slots: slotsIn("_ _"), Head: n, Cycle: n/2 + 1, Tail: n}
		l["Head and Tail apart, "+what] = impl.Ring{Slots: slotsIn("_ _"), Head: n, Cycle: n/2 + 1, Tail: -n}
		l["all "+what] = impl.Ring{Slots: []impl.Slot{{Cycle: n, Tail: n, Sum: n}, {Cycle: n, Tail: n}}, Head: n, Cycle: n, Tail: n}
		l["a slot's Cycle "+what] = impl.Ring{Slots: []impl.Slot{{Cycle: n}, slotIn("_")}, Head: 1, Cycle: 1}
		l["a slot's Tail "+what] = impl.Ring{Slots: []impl.Slot{{Cycle: 1, Tail: n}, slotIn("_")}, Head: 1, Cycle: 1}
		l["a slot's Sum "+what] = impl.Ring{Slots: []impl.Slot{{Cycle: 1, Sum: n}, slotIn("_")}, Head: 1, Cycle: 1}
	}
	return l
}

func wantRingRefused(t *testing.T, what string, r impl.Ring) {
	t.Helper()
	if impl.GoodRing(r) {
		t.Fatalf("%s: good", what)
	}
	for _, data := range []string{"", "a", "abcdefghijkl", "abcdefghijklm"} {
		got, ok := impl.PutRecord(r, data)
		wantNoRing(t, what, got, ok)
	}
	for _, many := range []int{0, 1, 2, -1, math.MaxInt, math.MinInt} {
		got, ok := impl.PushTail(r, many)
		wantNoRing(t, what, got, ok)
	}
	if l, ok := impl.RecordsOf(r); ok || len(l) != 0 {
		t.Fatalf("%s: RecordsOf: got %q %v", what, l, ok)
	}
	room, ok := impl.RoomFor(r)
	wantNoNumber(t, what, room, ok)
}

func TestBadRingsAreRefused(t *testing.T) {
	for what, r := range badRings() {
		held := slices.Clone(r.Slots)
		wantRingRefused(t, what, r)
		if goodRingByTrial(r) {
			t.Errorf("%s: good by trial", what)
		}
		if !slices.Equal(r.Slots, held) {
			t.Errorf("%s: a refusal wrote into it", what)
		}
	}
}

func checkGoodRing(t *testing.T, r impl.Ring) {
	t.Helper()
	if good := goodRingByTrial(r); impl.GoodRing(r) != good {
		t.Fatalf("GoodRing of %v: got %v", r, !good)
	}
}

// changedSlots differ from a slot in one thing, some of them being whole again.
func changedSlots(s impl.Slot) []impl.Slot {
	l := []impl.Slot{slotIn("_"), {}, {Data: "a"}, slotIn("0/0/a"), slotIn("1/0/a"), slotIn("1000001/1/a")}
	change := func(by func(c *impl.Slot)) {
		c := s
		by(&c)
		l = append(l, c, withSum(c))
	}
	for _, n := range []int{-2, -1, 1, 2, 1000000, 5000000, 10000000, math.MaxInt, math.MinInt} {
		change(func(c *impl.Slot) { c.Cycle += n })
		change(func(c *impl.Slot) { c.Tail += n })
		change(func(c *impl.Slot) { c.Sum += n })
	}
	change(func(c *impl.Slot) { c.Cycle = 0 })
	change(func(c *impl.Slot) { c.Tail = 0 })
	change(func(c *impl.Slot) { c.Sum = 0 })
	change(func(c *impl.Slot) { c.Data = "" })
	change(func(c *impl.Slot) { c.Data += "\xff" })
	change(func(c *impl.Slot) { c.Data = "abcdefghijklm" })
	return l
}

// changedRings differ from a ring in one number, one slot or the order of two.
func changedRings(r impl.Ring) []impl.Ring {
	var l []impl.Ring
	change := func(by func(c *impl.Ring)) {
		c := r
		c.Slots = slices.Clone(r.Slots)
		by(&c)
		l = append(l, c)
	}
	for _, n := range []int{-3, -2, -1, 1, 2, 3, 24, 10000000, math.MaxInt, math.MinInt} {
		change(func(c *impl.Ring) { c.Head += n })
		change(func(c *impl.Ring) { c.Tail += n })
		change(func(c *impl.Ring) { c.Cycle += n })
		change(func(c *impl.Ring) { *c = ringAt(c.Head+n, c.Tail, c.Slots) })
		change(func(c *impl.Ring) { *c = ringAt(c.Head+n, c.Tail+n, c.Slots) })
	}
	for i, s := range r.Slots {
		for _, other := range changedSlots(s) {
			change(func(c *impl.Ring) { c.Slots[i] = other })
		}
		for k := range i {
			change(func(c *impl.Ring) { c.Slots[i], c.Slots[k] = c.Slots[k], c.Slots[i] })
			change(func(c *impl.Ring) { c.Slots[i] = c.Slots[k] })
		}
		change(func(c *impl.Ring) { *c = ringAt(c.Head, c.Tail, slices.Delete(c.Slots, i, i+1)) })
		change(func(c *impl.Ring) { *c = ringAt(c.Head, c.Tail, slices.Insert(c.Slots, i, s)) })
		change(func(c *impl.Ring) { *c = ringAt(c.Head, c.Tail, slices.Insert(c.Slots, i, slotIn("_"))) })
	}
	return l
}

func TestGoodRingsAreWhatTheWordsSay(t *testing.T) {
	for _, text := range goodRingTexts() {
		if !goodRingByTrial(ringIn(text)) {
			t.Errorf("%s is not good by trial", text)
		}
		checkGoodRing(t, ringIn(text))
		for _, one := range changedRings(ringIn(text)) {
			checkGoodRing(t, one)
			for _, two := range changedRings(one) {
				checkGoodRing(t, two)
			}
		}
	}
	s := steps(19)
	for slots := 2; slots <= impl.MaxRing+1; slots++ {
		b := newLogbook(slots, s.below(2)*s.below(4*slots))
		for range s.below(4 * slots) {
			b = b.with("x").pushed(s.below(2))
			if b.head()-b.tail > slots {
				b = b.pushed(1)
			}
		}
		checkGoodRing(t, b.ring())
		for _, one := range changedRings(b.ring()) {
			checkGoodRing(t, one)
		}
	}
}

// smallSlots are all slots of so small a Cycle and Tail, whole and not.
func smallSlots(cycles int, tails int) []impl.Slot {
	l := []impl.Slot{slotIn("0/0/a")}
	for cycle := range cycles {
		for tail := range tails {
			s := withSum(impl.Slot{Cycle: cycle, Tail: tail})
			torn := s
			torn.Sum++
			l = append(l, s, torn)
		}
	}
	return l
}

func TestAllSmallRings(t *testing.T) {
	for _, row := range rowsOf(2, smallSlots(4, 5)...) {
		for head := range 6 {
			for tail := -1; tail <= head+1; tail++ {
				checkGoodRing(t, ringAt(head, tail, row))
			}
		}
	}
	for _, row := range rowsOf(3, smallSlots(3, 3)...) {
		for head := range 7 {
			for tail := max(0, head-3); tail <= head; tail++ {
				checkGoodRing(t, ringAt(head, tail, row))
			}
		}
	}
}

func checkOpened(t *testing.T, slots []impl.Slot) {
	t.Helper()
	got, ok := impl.OpenRing(slots)
	want, good := openByTrial(slots)
	if !good {
		wantNoRing(t, "OpenRing", got, ok)
		return
	}
	wantRing(t, "OpenRing", got, ok, want)
}

func TestOpenRingIsWhatTheWordsSay(t *testing.T) {
	for many := range 2 {
		for _, row := range rowsOf(many, smallSlots(4, 5)...) {
			checkOpened(t, row)
		}
	}
	for _, row := range slices.Concat(rowsOf(2, smallSlots(5, 9)...), rowsOf(3, smallSlots(4, 5)...)) {
		checkOpened(t, row)
	}
	for _, text := range goodRingTexts() {
		for _, one := range changedRings(ringIn(text)) {
			checkOpened(t, one.Slots)
			if len(one.Slots) > 2 {
				continue
			}
			for place, s := range one.Slots {
				for _, other := range changedSlots(s) {
					two := slices.Clone(one.Slots)
					two[place] = other
					checkOpened(t, two)
				}
			}
		}
	}
	for _, r := range badRings() {
		checkOpened(t, r.Slots)
	}
}

// oddSlots are slots of all numbers that may be in the way, and of long data.
func oddSlots() []impl.Slot {
	l := []impl.Slot{{Data: strings.Repeat("a", 100000)}, {Data: strings.Repeat("\xff", 12), Sum: -1}}
	for _, n := range append(oddNumbers(), 999999, 1000000, 1000001, 4999999, 5000000, 5000001, 9999999, 10000000, 10000001) {
		for _, s := range []impl.Slot{{Cycle: n}, {Tail: n}, {Sum: n}, {Cycle: n, Tail: n, Sum: n}, {Cycle: 1, Tail: n}, {Cycle: n, Tail: 1, Data: "a"}} {
			l = append(l, s, withSum(s))
		}
	}
	return l
}

func TestOddSlots(t *testing.T) {
	for _, s := range oddSlots() {
		if got := impl.SlotSum(s); got != sumByTrial(s) {
			t.Fatalf("SlotSum of %v: got %d", s, got)
		}
		for _, keep := range []int{0, 1, 12, 13, -1, math.MaxInt, math.MinInt} {
			wantTorn(t, s, keep)
		}
		for slots := 2; slots <= impl.MaxRing; slots += 11 {
			for _, place := range []int{0, 1, slots - 1} {
				r := blankRing(slots)
				r.Slots[place] = s
				checkOpened(t, r.Slots)
				for _, head := range []int{0, place, place + 1, slots, s.Cycle * slots, s.Cycle*slots + place + 1} {
					for _, tail := range []int{0, head, head - 1, s.Tail} {
						checkGoodRing(t, ringAt(head, tail, r.Slots))
					}
				}
			}
		}
	}
}

func TestOddNumbersInRings(t *testing.T) {
	for _, n := range append(oddNumbers(), 23, 24, 25) {
		got, ok := impl.NewRing(n)
		if n < 2 || n > 24 {
			wantNoRing(t, "NewRing", got, ok)
		} else {
			wantRing(t, "NewRing", got, ok, blankRing(n))
		}
		for _, slots := range []int{2, 3, 24} {
			b := newLogbook(slots, 0)
			for range slots {
				b = b.with("a")
				checkPushTail(t, b, n)
			}
		}
	}
}

// roomyRing has room behind its slots, with slots in it that are none of its.
func roomyRing(text string) impl.Ring {
	r := ringIn(text)
	r.Slots = withRoom(r.Slots, slotIn("77/7/behind"), slotIn("88/8/behind!"))
	return r
}

func listsOfRing(r impl.Ring) [][]impl.Slot {
	return [][]impl.Slot{r.Slots}
}

func wantRoomyRing(t *testing.T, what string, r impl.Ring, text string) {
	t.Helper()
	wantAsFresh(t, what, listsOfRing(r), listsOfRing(roomyRing(text)))
}

// wantRingApart: the slots of an answer are its own.
func wantRingApart(t *testing.T, what string, r impl.Ring, text string, answer impl.Ring) {
	t.Helper()
	wantListsApart(t, what, listsOfRing(r), listsOfRing(roomyRing(text)), listsOfRing(answer), slotIn("99/9/spoilt"))
}

func TestRingAnswersAreNewMemory(t *testing.T) {
	for _, text := range goodRingTexts() {
		r := roomyRing(text)
		if got, ok := impl.PutRecord(r, "new"); ok {
			wantRingApart(t, "PutRecord", r, text, got)
		}
		for many := -1; many <= r.Head-r.Tail+1; many++ {
			r = roomyRing(text)
			if got, ok := impl.PushTail(r, many); ok {
				wantRingApart(t, "PushTail", r, text, got)
			}
			wantRoomyRing(t, "pushed or refused", r, text)
		}
		got, ok := impl.OpenRing(r.Slots)
		if !ok {
			t.Fatalf("%s does not open", text)
		}
		wantRingApart(t, "OpenRing", r, text, got)
		wantRoomyRing(t, "opened", r, text)
	}
}

func TestQuestionsWriteIntoNoRing(t *testing.T) {
	for _, text := range goodRingTexts() {
		r := roomyRing(text)
		for range 2 {
			l, ok := impl.RecordsOf(r)
			if !ok || len(l) != r.Head-r.Tail || slices.Contains(l[:cap(l)], "behind") {
				t.Fatalf("RecordsOf of %s: got %q %v", text, l, ok)
			}
			spoil(l, "spoilt")
			room, ok := impl.RoomFor(r)
			wantNumber(t, "RoomFor", room, ok, len(r.Slots)-len(l))
			if !impl.GoodRing(r) {
				t.Fatalf("%s is not good", text)
			}
			for i := range r.Slots {
				impl.SlotSum(r.Slots[i])
				impl.TearSlot(r.Slots[i], 0)
			}
			got, ok := impl.PutRecord(r, "abcdefghijklm")
			wantNoRing(t, "PutRecord", got, ok)
			wantRoomyRing(t, "asked", r, text)
		}
	}
}

// What lies behind the length is none of the ring's slots.
func TestSlotsBehindTheLengthDoNotCount(t *testing.T) {
	all := slotsIn("1/0/a 1/0/b 1/0/c")
	got, ok := impl.OpenRing(all[:2])
	wantRing(t, "OpenRing of two of three", got, ok, ringIn("2 0: 1/0/a 1/0/b"))
	got, ok = impl.OpenRing(all[:1])
	wantNoRing(t, "OpenRing of one of three", got, ok)
	got, ok = impl.OpenRing(all[:0])
	wantNoRing(t, "OpenRing of none of three", got, ok)
	many := blankRing(impl.MaxRing + 1).Slots
	got, ok = impl.OpenRing(many[:impl.MaxRing])
	wantRing(t, "OpenRing of MaxRing of one more", got, ok, blankRing(impl.MaxRing))
	if !impl.GoodRing(ringAt(2, 0, all[:2])) || !impl.GoodRing(ringAt(0, 0, many[:2])) {
		t.Error("slots behind the length make it bad")
	}
}

// Two steps from one ring do not meet in its slots.
func TestTwoStepsFromOneRing(t *testing.T) {
	text := "4 2: 2/2/d 1/0/b 1/0/c"
	r := roomyRing(text)
	one, okOne := impl.PutRecord(r, "one")
	two, okTwo := impl.PutRecord(r, "two")
	three, okThree := impl.PushTail(r, 1)
	four, okFour := impl.OpenRing(r.Slots)
	wantRing(t, "the first", one, okOne, ringIn("5 2: 2/2/d 2/2/one 1/0/c"))
	wantRing(t, "the second", two, okTwo, ringIn("5 2: 2/2/d 2/2/two 1/0/c"))
	wantRing(t, "the third", three, okThree, ringIn("4 3: 2/2/d 1/0/b 1/0/c"))
	wantRing(t, "the fourth", four, okFour, ringIn("4 2: 2/2/d 1/0/b 1/0/c"))
	wantRoomyRing(t, "all four", r, text)
}

func TestNewRingsShareNothing(t *testing.T) {
	one, _ := impl.NewRing(3)
	spoil(one.Slots, slotIn("9/9/spoilt"))
	two, ok := impl.NewRing(3)
	wantRing(t, "the second", two, ok, blankRing(3))
}
