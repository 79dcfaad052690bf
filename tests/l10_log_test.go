package tests

import (
	"math"
	"strings"
	"testing"

	"loop.example/g00261/impl"
)

func TestConstantsOfLogs(t *testing.T) {
	if impl.MaxRing != 24 || impl.MaxRecord != 12 {
		t.Error("MaxRing and MaxRecord are not 24 and 12")
	}
}

func TestNewRing(t *testing.T) {
	for _, slots := range []int{2, 3, 23, impl.MaxRing} {
		got, ok := impl.NewRing(slots)
		wantRing(t, "NewRing", got, ok, blankRing(slots))
		if got.Head != 0 || got.Cycle != 1 || got.Tail != 0 || len(got.Slots) != slots {
			t.Errorf("NewRing of %d: got %v", slots, got)
		}
		for _, s := range got.Slots {
			if s != (impl.Slot{Sum: 57789}) {
				t.Errorf("NewRing of %d has %v", slots, s)
			}
		}
	}
	for _, slots := range []int{1, 0, -1, -2, impl.MaxRing + 1, 48, math.MaxInt, math.MinInt} {
		got, ok := impl.NewRing(slots)
		wantNoRing(t, "NewRing", got, ok)
	}
}

func TestSlotSumsByHand(t *testing.T) {
	for _, c := range []struct {
		slot impl.Slot
		want int
	}{
		{impl.Slot{}, 225*256 + 189}, {impl.Slot{Cycle: 1, Data: "a"}, 14*256 + 36}, {impl.Slot{Cycle: 12, Tail: 3}, 234*256 + 243},
		{impl.Slot{Cycle: 1000000, Tail: 10000000, Data: "abcdefghijkl"}, 37925}, {impl.Slot{Cycle: 999999, Tail: 9999999}, 56145},
		{impl.Slot{Data: "\xff\x80\x00\xc3\xa9"}, 695}, // bytes above 127 count as they are
		{impl.Slot{Cycle: 1, Data: "S\xe5"}, 0},
		{impl.Slot{Cycle: 1, Data: "="}, 58624}, {impl.Slot{Cycle: 1, Data: "=\x00"}, 58624}, {impl.Slot{Cycle: 1, Data: "=\xfb"}, 58624},
	} {
		for _, sum := range []int{0, 1, c.want, -1, math.MaxInt, math.MinInt} {
			c.slot.Sum = sum
			if got := impl.SlotSum(c.slot); got != c.want || sumByTrial(c.slot) != c.want {
				t.Errorf("SlotSum of %v: got %d, want %d", c.slot, got, c.want)
			}
		}
	}
}

func TestSlotSumAtTheEdges(t *testing.T) {
	for _, cycle := range []int{-1, 0, 1, 999999, 1000000, 1000001} {
		for _, tail := range []int{-1, 0, 1, 9999999, 10000000, 10000001} {
			for _, data := range []string{"", "a", "abcdefghijkl", "abcdefghijklm", strings.Repeat("\xff", 12), strings.Repeat("é", 6), strings.Repeat("é", 7)} {
				s := impl.Slot{Cycle: cycle, Tail: tail, Data: data, Sum: 7}
				got := impl.SlotSum(s)
				if got != sumByTrial(s) {
					t.Errorf("SlotSum of %v: got %d, want %d", s, got, sumByTrial(s))
				}
				if (cycle < 0 || cycle > 1000000 || tail < 0 || tail > 10000000 || len(data) > 12) && got != 0 {
					t.Errorf("SlotSum of %v, which is none: got %d", s, got)
				}
			}
		}
	}
}

func TestGoodRings(t *testing.T) {
	for _, text := range goodRingTexts() {
		if !impl.GoodRing(ringIn(text)) {
			t.Errorf("%s is not good", text)
		}
	}
	for _, slots := range []int{2, impl.MaxRing} {
		for _, head := range []int{0, 1, slots, slots + 1, 10000000} {
			// Nothing counts, and all slots are zero: good at any Head.
			if !impl.GoodRing(ringAt(head, head, blankRing(slots).Slots)) {
				t.Errorf("%d slots with Head and Tail %d are not good", slots, head)
			}
		}
	}
	b := newLogbook(impl.MaxRing, 10000000-impl.MaxRing)
	for range impl.MaxRing {
		b = b.with("x")
	}
	if b.head() != 10000000 || !impl.GoodRing(b.ring()) {
		t.Error("a full ring with the greatest Head is not good")
	}
	if !impl.GoodRing(impl.Ring{Slots: []impl.Slot{{Cycle: 1, Data: "S\xe5"}, slotIn("_")}, Head: 1, Cycle: 1}) {
		t.Error("a Sum that is 0 rightly is not good")
	}
}

// Each of these is a ring that would be good but for one thing; badRings has them by name.
func TestRingsThatAreNotGood(t *testing.T) {
	for _, text := range []string{
		"0 0: _", "10000001 10000001: _ _", "1 -1: 1/0/a _", "1 2: 1/0/a _", "3 0: 2/0/c 1/0/b",
		"1 0: 1/0/a! _", "1 0: _ _", "3 2: 1/0/a 1/0/b", "2 1: 1/0/a! 1/1/b", "2 1: 0/0/! 1/1/b", "4 3: 1/0/a 2/3/d",
		"1 0: 1/0/a 1/0/b", "1 0: 1/0/a 0/0/b", "2 2: 1/1/a 1/1/b", "2 0: 1/0/a 1/1/b", "3 2: 2/0/c 1/1/b",
	} {
		if impl.GoodRing(ringIn(text)) {
			t.Errorf("%s is good", text)
		}
	}
	for _, cycle := range []int{0, 1, 3, -1, math.MaxInt, math.MinInt} {
		r := ringIn("3 1: 2/1/c 1/0/b")
		r.Cycle = cycle
		if impl.GoodRing(r) {
			t.Errorf("a Cycle of %d is good", cycle)
		}
	}
}

func TestPutRecordByHand(t *testing.T) {
	for _, c := range []struct {
		what string
		from string
		data string
		want string
	}{
		{"the first one", "0 0: _ _ _", "a", "1 0: 1/0/a _ _"},
		{"no data", "0 0: _ _", "", "1 0: 1/0/ _"},
		{"MaxRecord bytes", "1 0: 1/0/a _", "abcdefghijkl", "2 0: 1/0/a 1/0/abcdefghijkl"},
		{"bytes above 127", "1 0: 1/0/a _", "\xff\x80é", "2 0: 1/0/a 1/0/\xff\x80é"},
		{"the last room", "2 0: 1/0/a 1/0/b _", "c", "3 0: 1/0/a 1/0/b 1/0/c"},
		{"a slot for the second time", "3 2: 1/0/a 1/0/b 1/0/c", "d", "4 2: 2/2/d 1/0/b 1/0/c"},
		{"a slot for the third time", "6 5: 2/3/d 2/3/e 2/3/f", "g", "7 5: 3/5/g 2/3/e 2/3/f"},
		{"a slot that is zero", "3 2: _ _ 1/0/c", "d", "4 2: 2/2/d _ 1/0/c"},
		{"where nothing counts", "3 3: 1/0/a 1/0/b 1/0/c", "d", "4 3: 2/3/d 1/0/b 1/0/c"},
		{"the last of the greatest Cycle", "1999999 1999999: _ _", "a", "2000000 1999999: _ 1000000/1999999/a"},
		{"the greatest Head", "9999999 9999999: _ _ _ _ _ _ _ _ _ _ _", "a", "10000000 9999999: _ _ _ _ _ _ _ _ _ 909091/9999999/a _"},
	} {
		got, ok := impl.PutRecord(ringIn(c.from), c.data)
		wantRing(t, c.what, got, ok, ringIn(c.want))
	}
}

// A Cycle that is more than 1000000 has no SlotSum: the record is put with 0 as its Sum, and lies in no slot as said, so that the ring is good no more.
func TestPutRecordOfAGreatCycle(t *testing.T) {
	for slots := 2; slots <= 9; slots++ {
		for _, head := range []int{1000000 * slots, 1000000*slots + 1, 1000000*slots + slots, 9999998, 9999999} {
			got, ok := impl.PutRecord(ringAt(head, head, blankRing(slots).Slots), "a")
			want := blankRing(slots).Slots
			want[head%slots] = impl.Slot{Cycle: head/slots + 1, Tail: head, Data: "a"}
			if !ok || !sameRing(got, ringAt(head+1, head, want)) || want[head%slots].Cycle <= 1000000 {
				t.Fatalf("PutRecord at %d of %d slots: got %v %v", head, slots, got, ok)
			}
			wantRingRefused(t, "a Cycle beyond a slot's", got)
			got.Tail++
			wantRingRefused(t, "a Cycle beyond a slot's, ahead of Tail", got)
			opened, ok := impl.OpenRing(got.Slots)
			wantRing(t, "OpenRing", opened, ok, blankRing(slots))
		}
	}
	got, ok := impl.PutRecord(ringIn("1999998 1999998: _ _"), "a")
	if !ok || got.Slots[0].Cycle != 1000000 || got.Slots[0].Sum == 0 {
		t.Errorf("a Cycle of 1000000: got %v %v", got, ok)
	}
}

func TestPutRecordIsRefused(t *testing.T) {
	for _, text := range []string{"2 0: 1/0/a 1/0/b", "3 1: 2/1/c 1/0/b", "3 0: 1/0/a 1/0/b 1/0/c", "2000000 1999998: 1000000/1999998/a 1000000/1999998/b"} {
		for _, data := range []string{"", "d", "abcdefghijkl"} {
			got, ok := impl.PutRecord(ringIn(text), data)
			wantNoRing(t, "PutRecord to a full ring", got, ok)
		}
	}
	for _, data := range []string{"abcdefghijklm", strings.Repeat("é", 7), strings.Repeat("a", 100000)} {
		got, ok := impl.PutRecord(ringIn("0 0: _ _"), data)
		wantNoRing(t, "PutRecord of long data", got, ok)
	}
	for slots := 2; slots <= impl.MaxRing; slots++ {
		got, ok := impl.PutRecord(ringAt(10000000, 10000000, blankRing(slots).Slots), "a")
		wantNoRing(t, "PutRecord beyond the greatest Head", got, ok)
	}
}

func TestPushTailByHand(t *testing.T) {
	from := "5 2: 2/1/e 1/0/b 1/0/c 1/1/d"
	for many, want := range map[int]string{0: from, 1: "5 3: 2/1/e 1/0/b 1/0/c 1/1/d", 2: "5 4: 2/1/e 1/0/b 1/0/c 1/1/d", 3: "5 5: 2/1/e 1/0/b 1/0/c 1/1/d"} {
		got, ok := impl.PushTail(ringIn(from), many)
		wantRing(t, "PushTail", got, ok, ringIn(want))
	}
	for _, many := range []int{-1, 4, -2, 5, math.MaxInt, math.MinInt, math.MaxInt - 1} {
		got, ok := impl.PushTail(ringIn(from), many)
		wantNoRing(t, "PushTail", got, ok)
	}
	got, ok := impl.PushTail(ringIn("0 0: _ _"), 0)
	wantRing(t, "PushTail of nothing", got, ok, ringIn("0 0: _ _"))
	got, ok = impl.PushTail(ringIn("0 0: _ _"), 1)
	wantNoRing(t, "PushTail of one more than nothing", got, ok)
}

func TestRecordsAndRoomByHand(t *testing.T) {
	for text, want := range map[string]string{
		"0 0: _ _": "", "3 3: 2/2/c 1/1/b": "", "10000000 10000000: _ _": "",
		"1 0: 1/0/a _": "a", "2 0: 1/0/a 1/0/b": "a b", "2 1: 1/0/a 1/0/b": "b",
		"4 2: 2/2/d 1/0/b 1/0/c": "c d", "3 1: 2/1/c 1/0/b": "b c", "7 4: 3/4/g 2/2/e 2/3/f": "e f g",
		"2000000 1999998: 1000000/1999998/a 1000000/1999998/b":                  "a b",
		"10000000 9999998: _ _ _ _ _ _ _ _ 1000000/9999998/a 1000000/9999998/b": "a b",
	} {
		r := ringIn(text)
		wantRecords(t, r, strings.Fields(want))
		room, ok := impl.RoomFor(r)
		wantNumber(t, "RoomFor of "+text, room, ok, len(r.Slots)-len(strings.Fields(want)))
	}
	// Records without data are records, too.
	wantRecords(t, ringIn("3 1: 2/1/ 1/0/"), []string{"", ""})
}

// wantTorn: what the words say of a slot and a keep.
func wantTorn(t *testing.T, s impl.Slot, keep int) {
	t.Helper()
	got, ok := impl.TearSlot(s, keep)
	isSlot := s.Cycle >= 0 && s.Cycle <= 1000000 && s.Tail >= 0 && s.Tail <= 10000000 && len(s.Data) <= 12
	if !isSlot || keep < 0 || keep > 12 {
		if ok || got != (impl.Slot{}) {
			t.Fatalf("TearSlot of %v, %d: got %v %v, want the zero answer", s, keep, got, ok)
		}
		return
	}
	want := s
	if keep < len(s.Data) {
		want.Data = s.Data[:keep]
	}
	if !ok || got != want {
		t.Fatalf("TearSlot of %v, %d: got %v %v, want %v", s, keep, got, ok, want)
	}
}

func TestTearSlot(t *testing.T) {
	for _, s := range []impl.Slot{
		slotIn("_"), slotIn("3/1/abc"), slotIn("3/1/abc!"), {Cycle: 3, Tail: 1, Data: "abc"}, slotIn("1/0/abcdefghijkl"), slotIn("0/0/x"), {},
		slotIn("1000000/10000000/abc"), {Data: "abc", Sum: math.MinInt}, slotIn("1/0/é\xff"),
		slotIn("1000001/0/abc"), slotIn("-1/0/abc"), slotIn("1/-1/abc"), slotIn("1/10000001/abc"), slotIn("1/0/abcdefghijklm"),
	} {
		for keep := -2; keep <= 14; keep++ {
			wantTorn(t, s, keep)
		}
	}
	got, ok := impl.TearSlot(slotIn("3/1/abc"), 2)
	if !ok || got.Data != "ab" || got.Sum != slotIn("3/1/abc").Sum || got.Cycle != 3 || got.Tail != 1 {
		t.Errorf("got %v %v", got, ok)
	}
}

func TestOpenRingByHand(t *testing.T) {
	for _, c := range []struct {
		what  string
		slots string
		want  string
	}{
		{"no record", "_ _ _", "0 0: _ _ _"},
		{"no slot that is whole", "1/0/a! 1/0/b! 0/0/!", "0 0: _ _ _"},
		{"Cycle 0 with data", "0/0/a _", "0 0: _ _"},
		{"Cycle 0 with a Tail", "_ 0/5/", "0 0: _ _"},
		{"one record", "1/0/a _ _", "1 0: 1/0/a _ _"},
		{"a full ring", "1/0/a 1/0/b 1/0/c", "3 0: 1/0/a 1/0/b 1/0/c"},
		{"just gone round", "2/1/d 1/0/b 1/0/c", "4 1: 2/1/d 1/0/b 1/0/c"},
		{"gone round, none counts but the last", "2/3/d 1/0/b 1/0/c", "4 3: 2/3/d 1/0/b 1/0/c"},
		{"gone round twice", "3/5/g 3/5/h 2/3/f", "8 5: 3/5/g 3/5/h 2/3/f"},
		{"the last record torn", "1/0/a 1/0/b! _", "1 0: 1/0/a _ _"},
		{"the last of a full ring torn", "1/0/a 1/0/b 1/0/c!", "2 0: 1/0/a 1/0/b _"},
		{"the only one torn", "1/0/a! _", "0 0: _ _"},
		{"the last torn, which overwrote one that counted", "2/2/d! 1/0/b 1/0/c", "3 1: _ 1/0/b 1/0/c"},
		{"the last torn, which overwrote one that did not", "2/2/d! 1/0/b 1/2/c", "3 2: _ 1/0/b 1/2/c"},
		{"one in the middle torn", "1/0/a 1/0/b! 1/0/c 1/0/d _", "4 2: _ _ 1/0/c 1/0/d _"},
		{"one in the middle torn, ahead of Tail", "1/0/a 1/0/b! 1/0/c 1/3/d _", "4 3: _ _ 1/0/c 1/3/d _"},
		{"one in the middle torn, gone round", "2/2/f 2/2/g 1/0/c! 1/0/d 1/0/e", "7 3: 2/2/f 2/2/g _ 1/0/d 1/0/e"},
		{"one in the middle blank", "1/0/a _ 1/0/c", "3 2: _ _ 1/0/c"},
		{"Cycle 0 with data in the middle", "1/0/a 0/0/x 1/0/c _", "3 2: _ _ 1/0/c _"},
		{"a Cycle too old", "3/0/e 1/0/b", "5 4: 3/0/e _"},
		{"one Cycle too old among others", "2/1/d 1/0/b 2/2/f", "6 5: _ _ 2/2/f"},
		{"Tail less than the least", "_ 1/0/b 1/0/c", "3 1: _ 1/0/b 1/0/c"},
		{"Tail the least", "_ 1/0/b 1/1/c", "3 1: _ 1/0/b 1/1/c"},
		{"Tail among them", "1/0/a 1/0/b 1/1/c", "3 1: 1/0/a 1/0/b 1/1/c"},
		{"Tail the greatest", "1/0/a 1/0/b 1/2/c", "3 2: 1/0/a 1/0/b 1/2/c"},
		{"data too long", "1/0/a 1/0/abcdefghijklm", "1 0: 1/0/a _"},
		{"a negative Cycle", "1/0/a -1/0/b", "1 0: 1/0/a _"},
		{"a Tail that is none", "1/0/a 1/10000001/b", "1 0: 1/0/a _"},
		{"the greatest Cycle", "_ 1000000/1999999/a", "2000000 1999999: _ 1000000/1999999/a"},
		{"the greatest Head", "_ _ _ _ _ _ _ _ _ 1000000/9999999/a", "10000000 9999999: _ _ _ _ _ _ _ _ _ 1000000/9999999/a"},
		{"a Cycle beyond", "1000001/2000000/a _", "0 0: _ _"},
		{"a Cycle beyond, the last", "1000001/1999999/a 1000000/1999998/b", "2000000 1999999: _ 1000000/1999998/b"},
		{"a Cycle beyond, the last of three", "1000001/2999998/d 1000000/2999997/b 1000000/2999997/c", "3000000 2999998: _ 1000000/2999997/b 1000000/2999997/c"},
		{"Cycles beyond, all", "1000001/3000000/a 1000001/3000000/b 1000001/3000001/c", "0 0: _ _ _"},
		{"a Cycle much beyond, among others", "1/0/a 5000000/5/x 1/0/c", "3 2: _ _ 1/0/c"},
		{"a Cycle that no Head gets to", "_ _ _ _ _ _ _ _ _ 1000001/9999999/a", "0 0: _ _ _ _ _ _ _ _ _ _"},
	} {
		got, ok := impl.OpenRing(slotsIn(c.slots))
		wantRing(t, c.what, got, ok, ringIn(c.want))
	}
}

func TestOpenRingIsRefused(t *testing.T) {
	for what, slots := range map[string]string{
		"no slots": "", "one slot": "_", "one record": "1/0/a",
		"Tail more than the greatest number": "1/0/a 1/2/b", "Tail more than that, one record": "1/1/a _", "Tail much more": "1/0/a 1/10000000/b",
		"an earlier Tail more than its number": "1/1/a 1/1/b", "an earlier Tail more than the last one's": "1/0/a 1/1/b 1/0/c",
		"Head one more than the greatest": "_ _ _ _ _ _ _ _ _ _ 909091/9999999/a", "Head much more": "_ _ _ _ _ _ _ _ _ _ _ 1000000/5/a",
		"Head one more, with a record ahead": "_ _ _ 833334/9999998/a 833334/9999999/b _ _ _ _ _ _ _",
	} {
		got, ok := impl.OpenRing(slotsIn(slots))
		wantNoRing(t, what, got, ok)
	}
	for many := range 4 {
		got, ok := impl.OpenRing(blankRing(impl.MaxRing - 1 + many).Slots)
		if many > 1 {
			wantNoRing(t, "OpenRing of more than MaxRing", got, ok)
			continue
		}
		wantRing(t, "OpenRing of blank slots", got, ok, blankRing(impl.MaxRing-1+many))
	}
	got, ok := impl.OpenRing(nil)
	wantNoRing(t, "OpenRing of nil", got, ok)
	got, ok = impl.OpenRing(blankRing(100000).Slots)
	wantNoRing(t, "OpenRing of many", got, ok)
}

// Where the sum does not tell that a record is torn, it stays, with what is left of its data.
func TestATornRecordThatItsSumDoesNotTell(t *testing.T) {
	r, _ := impl.NewRing(3)
	r, _ = impl.PutRecord(r, "=\x00")
	r.Slots[0], _ = impl.TearSlot(r.Slots[0], 1)
	got, ok := impl.OpenRing(r.Slots)
	wantRing(t, "OpenRing", got, ok, ringIn("1 0: 1/0/= _ _"))
	r, _ = impl.NewRing(3)
	r, _ = impl.PutRecord(r, "abc")
	r.Slots[0], _ = impl.TearSlot(r.Slots[0], 3)
	got, ok = impl.OpenRing(r.Slots)
	wantRing(t, "OpenRing of what was torn behind its end", got, ok, ringIn("1 0: 1/0/abc _ _"))
}
