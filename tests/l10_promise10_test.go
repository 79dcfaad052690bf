package tests

import (
	"fmt"
	"slices"
	"strings"
	"testing"

	"loop.example/g00261/impl"
)

// sumByTrial adds each byte as often as it counts, and takes what is left only then. Of what is no slot it is 0.
func sumByTrial(s impl.Slot) int {
	if s.Cycle < 0 || s.Cycle > 1000000 || s.Tail < 0 || s.Tail > 10000000 || len(s.Data) > 12 {
		return 0
	}
	text := fmt.Sprintf("%d.%d.%s", s.Cycle, s.Tail, s.Data)
	a, b := 1, len(text)
	for i := range len(text) {
		a += int(text[i])
		b += (len(text) - i) * int(text[i])
	}
	return b%251*256 + a%251
}

// withSum is a slot that is whole, whatever its Sum was.
func withSum(s impl.Slot) impl.Slot {
	s.Sum = sumByTrial(s)
	return s
}

// slotIn reads a slot from a text: '_' is a blank one, others are Cycle, '/', Tail, '/', Data, and '!' behind one whose Sum is another.
func slotIn(text string) impl.Slot {
	if text == "_" {
		return withSum(impl.Slot{})
	}
	plain, other := strings.CutSuffix(text, "!")
	parts := strings.SplitN(plain, "/", 3)
	s := withSum(impl.Slot{Cycle: numberIn(parts[0]), Tail: numberIn(parts[1]), Data: parts[2]})
	if other {
		s.Sum++
	}
	return s
}

// slotsIn reads slots: with blanks between.
func slotsIn(text string) []impl.Slot {
	var l []impl.Slot
	for _, word := range strings.Fields(text) {
		l = append(l, slotIn(word))
	}
	return l
}

// ringIn reads a ring: Head, Tail, ':' and its slots. The Cycle is that of Head.
func ringIn(text string) impl.Ring {
	numbers, slots, _ := strings.Cut(text, ":")
	words := strings.Fields(numbers)
	return ringAt(numberIn(words[0]), numberIn(words[1]), slotsIn(slots))
}

func ringAt(head int, tail int, slots []impl.Slot) impl.Ring {
	return impl.Ring{Slots: slots, Head: head, Cycle: head/max(len(slots), 1) + 1, Tail: tail}
}

func blankRing(slots int) impl.Ring {
	return ringAt(0, 0, slices.Repeat(slotsIn("_"), slots))
}

// logbook knows each record that was put, from the one with the number first on, ahead of which there was none, and the Tail of that time.
type logbook struct {
	slots int
	first int
	data  []string
	tails []int
	tail  int
}

func newLogbook(slots int, first int) logbook {
	return logbook{slots: slots, first: first, tail: first}
}

func (b logbook) head() int {
	return b.first + len(b.data)
}

func (b logbook) with(data string) logbook {
	b.data = append(slices.Clone(b.data), data)
	b.tails = append(slices.Clone(b.tails), b.tail)
	return b
}

func (b logbook) pushed(many int) logbook {
	b.tail += many
	return b
}

// ring is what these records make: each slot has the one that came there last.
func (b logbook) ring() impl.Ring {
	r := blankRing(b.slots)
	for i, data := range b.data {
		number := b.first + i
		r.Slots[number%b.slots] = withSum(impl.Slot{Cycle: number/b.slots + 1, Tail: b.tails[i], Data: data})
	}
	return ringAt(b.head(), b.tail, r.Slots)
}

// from are the data of the records from a number on.
func (b logbook) from(number int) []string {
	return b.data[number-b.first:]
}

func sameRing(a impl.Ring, b impl.Ring) bool {
	return a.Head == b.Head && a.Cycle == b.Cycle && a.Tail == b.Tail && slices.Equal(a.Slots, b.Slots)
}

func wantRing(t *testing.T, what string, got impl.Ring, ok bool, want impl.Ring) {
	t.Helper()
	if !ok || !sameRing(got, want) || !impl.GoodRing(got) {
		t.Fatalf("%s: got %v %v, want %v", what, got, ok, want)
	}
}

func wantNoRing(t *testing.T, what string, got impl.Ring, ok bool) {
	t.Helper()
	if ok || !sameRing(got, impl.Ring{}) {
		t.Fatalf("%s: got %v %v, want the zero answer", what, got, ok)
	}
}

func wantRecords(t *testing.T, r impl.Ring, want []string) {
	t.Helper()
	if got, ok := impl.RecordsOf(r); !ok || !slices.Equal(got, want) {
		t.Fatalf("RecordsOf of %v: got %q %v, want %q", r, got, ok, want)
	}
}

// checkRing: a ring that came by steps is good, tells what counts, and has room for the rest.
func checkRing(t *testing.T, b logbook) {
	t.Helper()
	r := b.ring()
	if !impl.GoodRing(r) || !goodRingByTrial(r) {
		t.Fatalf("not good: %v", r)
	}
	wantRecords(t, r, b.from(b.tail))
	room, ok := impl.RoomFor(r)
	wantNumber(t, "RoomFor", room, ok, b.slots-(b.head()-b.tail))
}

// checkBeyond: a record whose Cycle is more than a slot's is put as others are, but its ring is refused, and opened again has all but that.
func checkBeyond(t *testing.T, b logbook, got impl.Ring, ok bool) {
	t.Helper()
	if !ok || !sameRing(got, b.ring()) {
		t.Fatalf("PutRecord beyond: got %v %v, want %v", got, ok, b.ring())
	}
	wantRingRefused(t, "a record beyond", got)
	wantOpenedWithoutLast(t, "a record beyond", b, got.Slots)
}

// checkPutRecord answers whether the book goes on with that record.
func checkPutRecord(t *testing.T, b logbook, data string) (logbook, bool) {
	t.Helper()
	got, ok := impl.PutRecord(b.ring(), data)
	if len(data) > 12 || b.head()-b.tail == b.slots || b.head() == 10000000 {
		wantNoRing(t, "PutRecord", got, ok)
		return b, false
	}
	if b.head() >= 1000000*b.slots {
		checkBeyond(t, b.with(data), got, ok)
		return b, false
	}
	wantRing(t, "PutRecord", got, ok, b.with(data).ring())
	told, ok := impl.RecordsOf(got)
	if !ok || len(told) == 0 || told[len(told)-1] != data {
		t.Fatalf("%q was put, and not told last: %q %v", data, told, ok)
	}
	return b.with(data), true
}

func checkPushTail(t *testing.T, b logbook, many int) (logbook, bool) {
	t.Helper()
	got, ok := impl.PushTail(b.ring(), many)
	if many < 0 || many > b.head()-b.tail {
		wantNoRing(t, "PushTail", got, ok)
		return b, false
	}
	wantRing(t, "PushTail", got, ok, b.pushed(many).ring())
	wantRecords(t, got, b.from(b.tail+many))
	return b.pushed(many), true
}

// wantOpened: the ring ends ahead of that number, and has all records from another one on, perhaps some that counted no more, all as they were put.
func wantOpened(t *testing.T, what string, b logbook, slots []impl.Slot, head int, least int) {
	t.Helper()
	r, ok := impl.OpenRing(slots)
	if !ok || !impl.GoodRing(r) || r.Head != head || r.Tail > least {
		t.Fatalf("%s: %v: got %v %v, want Head %d and a Tail of at most %d", what, slots, r, ok, head, least)
	}
	if r.Tail < b.first {
		t.Fatalf("%s: %v: opened with a Tail of %d, ahead of all records", what, slots, r.Tail)
	}
	wantRecords(t, r, b.from(r.Tail)[:head-r.Tail])
	want, _ := openByTrial(slots)
	wantRing(t, what, r, ok, want)
}

// wantOpenedWithoutLast: the ring has all records that count but the last one.
func wantOpenedWithoutLast(t *testing.T, what string, b logbook, slots []impl.Slot) {
	t.Helper()
	last := b.head() - 1
	if last == b.first {
		got, ok := impl.OpenRing(slots)
		wantRing(t, what+", the only one", got, ok, blankRing(b.slots))
		return
	}
	wantOpened(t, what, b, slots, last, b.tail)
}

// checkOpenRing: opened again a ring has all records that count.
func checkOpenRing(t *testing.T, b logbook) {
	t.Helper()
	if len(b.data) == 0 {
		r, ok := impl.OpenRing(b.ring().Slots)
		wantRing(t, "OpenRing of no records", r, ok, blankRing(b.slots))
		return
	}
	wantOpened(t, "OpenRing", b, b.ring().Slots, b.head(), b.tail)
}

// checkTorn: with its last record torn, so that its sum tells it, a ring has all that count but that.
func checkTorn(t *testing.T, b logbook) {
	t.Helper()
	last := b.head() - 1
	if b.tail > last {
		return
	}
	r := b.ring()
	whole := r.Slots[last%b.slots]
	for keep := range len(whole.Data) {
		torn, ok := impl.TearSlot(whole, keep)
		if !ok || torn.Data != whole.Data[:keep] || torn.Sum != whole.Sum {
			t.Fatalf("TearSlot of %v, %d: got %v %v", whole, keep, torn, ok)
		}
		if sumByTrial(torn) == torn.Sum {
			continue
		}
		r.Slots[last%b.slots] = torn
		wantOpenedWithoutLast(t, "the last record torn", b, r.Slots)
	}
}

// checkBook: all that is promised of a ring that came by steps.
func checkBook(t *testing.T, b logbook) {
	t.Helper()
	checkRing(t, b)
	checkOpenRing(t, b)
	checkTorn(t, b)
}

// A step of all rings of two and of three slots is to put something or to push the tail.
func TestRingsOfFewStepsInAllWays(t *testing.T) {
	for slots := 2; slots <= 3; slots++ {
		for _, row := range rowsOf(8, "put", "1", "2") {
			b := newLogbook(slots, 0)
			for i, step := range row {
				if step == "put" {
					b, _ = checkPutRecord(t, b, "abcdefgh"[i:i+1])
				} else {
					b, _ = checkPushTail(t, b, numberIn(step))
				}
			}
			checkBook(t, b)
		}
	}
}

func TestARowOfRingSteps(t *testing.T) {
	for slots := 2; slots <= impl.MaxRing; slots++ {
		s := steps(1000 + slots)
		b := newLogbook(slots, 0)
		checkBook(t, b)
		for range 30 + 10*slots {
			if s.below(5) > 1 {
				b, _ = checkPutRecord(t, b, string(someBytes(&s, s.below(14))))
			} else {
				b, _ = checkPushTail(t, b, s.below(slots/2+3)-1)
			}
			checkBook(t, b)
		}
		if b.head() < 2*slots {
			t.Errorf("a ring of %d slots has come to %d alone", slots, b.head())
		}
	}
}

// A ring that has no record yet may begin at any number. Up to the greatest Head each record is kept, as long as its Cycle is a slot's.
func TestRingsOfGreatNumbers(t *testing.T) {
	for slots := 2; slots <= impl.MaxRing; slots++ {
		for _, first := range []int{1, slots - 1, slots, 1000000*slots - 3, 1000000 * slots, 10000000 - 5*slots, 10000000 - slots, 10000000 - 1, 10000000} {
			if first > 10000000 {
				continue
			}
			b := newLogbook(slots, first)
			checkBook(t, b)
			did := true
			for i := 0; did && i < 3*slots; i++ {
				b, did = checkPutRecord(t, b, "ab"[:i%3])
				checkBook(t, b)
				if b.head()-b.tail == slots {
					checkPutRecord(t, b, "full")
					b, _ = checkPushTail(t, b, 1+i%slots)
					checkBook(t, b)
				}
			}
			if end := max(first, min(10000000, 1000000*slots)); !did && b.head() != end {
				t.Errorf("%d slots from %d on: ended at %d, not at %d", slots, first, b.head(), end)
			}
		}
	}
}

// Room and records are together all slots, from none to all.
func TestRoomAndRecordsAreAllSlots(t *testing.T) {
	for slots := 2; slots <= impl.MaxRing; slots++ {
		r, ok := impl.NewRing(slots)
		for many := 0; ok; many++ {
			room, isRoom := impl.RoomFor(r)
			l, isList := impl.RecordsOf(r)
			if !isRoom || !isList || len(l) != many || room+many != slots {
				t.Fatalf("%d slots: room for %d %v, %d records %v of %d", slots, room, isRoom, len(l), isList, many)
			}
			if r, ok = impl.PutRecord(r, "x"); ok != (room > 0) {
				t.Fatalf("%d slots: room for %d, put: %v", slots, room, ok)
			}
		}
	}
}

// What is opened goes on as a ring: it is put to, pushed and opened again.
func TestWhatIsOpenedGoesOn(t *testing.T) {
	s := steps(10)
	for range 300 {
		slots := 2 + s.below(7)
		r, ok := impl.NewRing(slots)
		for range 40 {
			data := string(someBytes(&s, 1+s.below(12)))
			before := r
			if r, ok = impl.PutRecord(r, data); !ok {
				r, ok = impl.PushTail(before, 1+s.below(slots))
			}
			if !ok || !impl.GoodRing(r) {
				t.Fatalf("not good behind a step: %v %v", r, ok)
			}
			if s.below(5) > 0 {
				continue
			}
			if place := s.below(slots); s.below(2) == 0 {
				r.Slots[place], _ = impl.TearSlot(r.Slots[place], s.below(3))
			}
			want, good := openByTrial(r.Slots)
			r, ok = impl.OpenRing(r.Slots)
			if !good {
				t.Fatalf("%v does not open by trial", r)
			}
			wantRing(t, "OpenRing", r, ok, want)
		}
	}
}
