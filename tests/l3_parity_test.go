package tests

import (
	"math"
	"slices"
	"strings"
	"testing"

	"loop.example/g00261/impl"
)

func wantNoStripe(t *testing.T, what string, got impl.Stripe, ok bool) {
	t.Helper()
	if ok || !sameStripe(got, impl.Stripe{}) {
		t.Errorf("%s: got %q %v, want the zero answer", what, got, ok)
	}
}

// texts are many of one length, of one letter each.
func texts(many int, length int) []string {
	l := make([]string, many)
	for i := range l {
		l[i] = strings.Repeat(string([]byte{byte('a' + i)}), length)
	}
	return l
}

func TestParityLimits(t *testing.T) {
	if impl.MaxDisks != 16 || impl.MaxStripe != 40 {
		t.Error(impl.MaxDisks, impl.MaxStripe)
	}
}

func TestStripesByHand(t *testing.T) {
	cases := []struct {
		data []string
		p, q string
	}{
		{[]string{""}, "", ""},
		{[]string{"", "", ""}, "", ""},
		{[]string{"a"}, "a", "a"},
		{[]string{"\x00\xff"}, "\x00\xff", "\x00\xff"},
		{[]string{"\x01", "\x02", "\x04"}, "\x07", "\x15"},
		{[]string{"\x00", "\x80"}, "\x80", "\x1d"},
		{[]string{"\x80", "\x80"}, "\x00", "\x9d"},
		{[]string{"\x01\x02", "\x03\x04"}, "\x02\x06", "\x07\x0a"},
		{slices.Repeat([]string{"\x01"}, 8), "\x00", "\xff"},
		{slices.Repeat([]string{"\x01"}, 9), "\x01", "\xe2"},
	}
	for _, c := range cases {
		got, ok := impl.MakeStripe(c.data)
		wantStripe(t, "MakeStripe", got, ok, impl.Stripe{Data: c.data, P: c.p, Q: c.q})
		wantRight(t, "MakeStripe", got, true)
	}
}

func TestMakeStripeOfDataNotAsSaid(t *testing.T) {
	longer := texts(3, 4)
	longer[2] += "x"
	shorter := texts(3, 4)
	shorter[1] = ""
	first := texts(3, 4)
	first[0] = "xyz"
	for what, data := range map[string][]string{
		"nil": nil, "no texts": {}, "one text too many": texts(impl.MaxDisks+1, 4),
		"one text too many, of no length": texts(impl.MaxDisks+1, 0), "far too many": texts(100000, 1),
		"a text too long": texts(1, impl.MaxStripe+1), "texts too long": texts(impl.MaxDisks, impl.MaxStripe+1),
		"a text far too long": texts(1, 1000000), "the last longer": longer, "one empty": shorter, "the first shorter": first,
	} {
		got, ok := impl.MakeStripe(data)
		wantNoStripe(t, what, got, ok)
	}
}

func TestGoodStripe(t *testing.T) {
	of := func(data []string, p, q int) impl.Stripe {
		return impl.Stripe{Data: data, P: strings.Repeat("p", p), Q: strings.Repeat("q", q)}
	}
	longer := texts(3, 4)
	longer[0] += "x"
	most := impl.MaxStripe
	cases := []struct {
		what string
		s    impl.Stripe
		good bool
	}{
		{"the zero stripe", impl.Stripe{}, false},
		{"no data, P and Q", of(nil, 3, 3), false},
		{"one disk, of no length", of(texts(1, 0), 0, 0), true},
		{"one disk", of(texts(1, 1), 1, 1), true},
		{"as many disks as may be", of(texts(impl.MaxDisks, 3), 3, 3), true},
		{"as many disks as may be, of no length", of(texts(impl.MaxDisks, 0), 0, 0), true},
		{"one disk too many", of(texts(impl.MaxDisks+1, 3), 3, 3), false},
		{"one disk too many, of no length", of(texts(impl.MaxDisks+1, 0), 0, 0), false},
		{"as long as may be", of(texts(impl.MaxDisks, most), most, most), true},
		{"too long", of(texts(2, most+1), most+1, most+1), false},
		{"unlike lengths", of(longer, 4, 4), false},
		{"P short", of(texts(2, 4), 3, 4), false},
		{"P long", of(texts(2, 4), 5, 4), false},
		{"Q short", of(texts(2, 4), 4, 3), false},
		{"Q long", of(texts(2, 4), 4, 5), false},
		{"P and Q long", of(texts(2, 4), 5, 5), false},
		{"P and Q of no length", of(texts(2, 4), 0, 0), false},
		{"P and Q at disks of no length", of(texts(2, 0), 1, 1), false},
		{"P too long", of(texts(2, most), most+1, most), false},
		{"Q too long", of(texts(2, most), most, most+1), false},
	}
	for _, c := range cases {
		if got := impl.GoodStripe(c.s); got != c.good {
			t.Errorf("%s: got %v", c.what, got)
		}
		_, ok := impl.CheckStripe(c.s)
		if ok != c.good {
			t.Errorf("%s: CheckStripe tells %v", c.what, ok)
		}
	}
}

func TestCheckStripe(t *testing.T) {
	right := rightStripe("abc", "def", "ghi")
	cases := []struct {
		what string
		s    impl.Stripe
		want bool
	}{
		{"right", right, true},
		{"of no length", rightStripe("", ""), true},
		{"P alone wrong at its end", withDisk(right, 3, right.P[:2]+"?"), false},
		{"Q alone wrong at its end", withDisk(right, 4, right.Q[:2]+"?"), false},
		{"P alone wrong at its front", withDisk(right, 3, "?"+right.P[1:]), false},
		{"Q alone wrong at its front", withDisk(right, 4, "?"+right.Q[1:]), false},
		{"a Data disk wrong", withDisk(right, 1, "dEf"), false},
		{"two Data disks in the other's place", withDisk(withDisk(right, 0, "def"), 1, "abc"), false},
		{"P and Q in the other's place", impl.Stripe{Data: right.Data, P: right.Q, Q: right.P}, false},
		{"all of bytes 0", rightStripe("\x00\x00", "\x00\x00"), true},
	}
	for _, c := range cases {
		wantRight(t, c.what, c.s, c.want)
	}
}

func TestRecoverOneByHand(t *testing.T) {
	right := rightStripe("\x01", "\x02", "\x04")
	for disk := range 5 {
		got, ok := impl.RecoverOne(withDisk(right, disk, "?"), disk)
		wantStripe(t, "RecoverOne", got, ok, right)
	}
	// A Data disk by P, whatever Q has; P and Q by all Data, whatever the other one has.
	got, ok := impl.RecoverOne(withDisk(withDisk(right, 1, "?"), 4, "q"), 1)
	wantStripe(t, "RecoverOne with a wrong Q", got, ok, withDisk(right, 4, "q"))
	got, ok = impl.RecoverOne(withDisk(withDisk(right, 3, "?"), 4, "q"), 3)
	wantStripe(t, "RecoverOne of P with a wrong Q", got, ok, withDisk(right, 4, "q"))
	got, ok = impl.RecoverOne(withDisk(withDisk(right, 4, "?"), 3, "p"), 4)
	wantStripe(t, "RecoverOne of Q with a wrong P", got, ok, withDisk(right, 3, "p"))
	got, ok = impl.RecoverOne(withDisk(right, 3, "\x00"), 0)
	wantStripe(t, "RecoverOne of a Data disk by a wrong P", got, ok, withDisk(withDisk(right, 3, "\x00"), 0, "\x06"))
}

func TestRecoverOneAtTheEdges(t *testing.T) {
	for _, s := range []impl.Stripe{rightStripe("abc"), rightStripe(texts(3, 2)...), rightStripe(texts(impl.MaxDisks, impl.MaxStripe)...), rightStripe("", "")} {
		q := len(s.Data) + 1
		for _, disk := range []int{0, len(s.Data) - 1, len(s.Data), q} {
			got, ok := impl.RecoverOne(s, disk)
			wantStripe(t, "RecoverOne", got, ok, s)
		}
		for _, disk := range []int{-1, -2, q + 1, q + 2, 1000, math.MaxInt, math.MinInt} {
			got, ok := impl.RecoverOne(s, disk)
			wantNoStripe(t, "RecoverOne of no disk", got, ok)
		}
	}
}

func TestRecoverTwoByHand(t *testing.T) {
	right := rightStripe("\x01", "\x02", "\x04")
	for what, pair := range map[string][2]int{
		"two Data disks": {0, 2}, "a Data disk and P": {1, 3}, "a Data disk and Q": {1, 4}, "P and Q": {3, 4},
	} {
		lost := withDisk(withDisk(right, pair[0], "?"), pair[1], "!")
		got, ok := impl.RecoverTwo(lost, pair[0], pair[1])
		wantStripe(t, what, got, ok, right)
		got, ok = impl.RecoverTwo(lost, pair[1], pair[0])
		wantStripe(t, what+", in the other order", got, ok, right)
	}
}

// By Q where P is lost: P has nothing to say then, and Q all.
func TestRecoverTwoOfADataDiskAndP(t *testing.T) {
	s := impl.Stripe{Data: []string{"\x01", "?", "\x04"}, P: "\x99", Q: "\x15"}
	want := impl.Stripe{Data: []string{"\x01", "\x02", "\x04"}, P: "\x07", Q: "\x15"}
	got, ok := impl.RecoverTwo(s, 1, 3)
	wantStripe(t, "RecoverTwo", got, ok, want)
	s.Q = "\x00"
	// 2 times the byte is 1 xor 4 times 4: 0x11.
	half, _ := impl.FieldDiv(0x11, 2)
	want = rightStripe("\x01", string([]byte{half}), "\x04")
	got, ok = impl.RecoverTwo(s, 3, 1)
	wantStripe(t, "RecoverTwo by another Q", got, ok, want)
	if got.Q != "\x00" {
		t.Errorf("Q was changed: %q", got)
	}
}

func TestRecoverTwoAtTheEdges(t *testing.T) {
	for _, s := range []impl.Stripe{rightStripe("abc"), rightStripe(texts(3, 2)...), rightStripe(texts(impl.MaxDisks, impl.MaxStripe)...), rightStripe("", "")} {
		q := len(s.Data) + 1
		for disk := range q + 1 {
			got, ok := impl.RecoverTwo(s, disk, disk)
			wantNoStripe(t, "RecoverTwo of a disk twice", got, ok)
			for _, no := range []int{-1, q + 1, q + 2, math.MaxInt, math.MinInt} {
				got, ok = impl.RecoverTwo(s, disk, no)
				wantNoStripe(t, "RecoverTwo of a disk and none", got, ok)
				got, ok = impl.RecoverTwo(s, no, disk)
				wantNoStripe(t, "RecoverTwo of none and a disk", got, ok)
				got, ok = impl.RecoverTwo(s, no, no)
				wantNoStripe(t, "RecoverTwo of none twice", got, ok)
			}
		}
		got, ok := impl.RecoverTwo(s, -1, q+1)
		wantNoStripe(t, "RecoverTwo of two that are none", got, ok)
	}
}

func TestFindWrongByHand(t *testing.T) {
	right := rightStripe("\x01\x02", "\x03\x04", "\x05\x06")
	cases := []struct {
		what string
		s    impl.Stripe
		disk int
		ok   bool
	}{
		{"right", right, 0, false},
		{"right, of no length", rightStripe("", ""), 0, false},
		{"the first disk wrong", withDisk(right, 0, "\x01?"), 0, true},
		{"a Data disk wrong", withDisk(right, 1, "?\x04"), 1, true},
		{"the last Data disk wrong at both places", withDisk(right, 2, "?!"), 2, true},
		{"P alone wrong", withDisk(right, 3, "?\x00"), 3, true},
		{"Q alone wrong", withDisk(right, 4, "\x00?"), 4, true},
		{"two Data disks wrong, at unlike places", withDisk(withDisk(right, 0, "?\x02"), 1, "\x03?"), 0, false},
		{"two Data disks wrong, the first place as if by one", withDisk(withDisk(right, 2, "?\x06"), 1, "\x03?"), 0, false},
		{"a Data disk and P wrong", withDisk(withDisk(right, 1, "??"), 3, "?\x00"), 0, false},
		{"a Data disk and Q wrong", withDisk(withDisk(right, 1, "??"), 4, "?\x00"), 0, false},
		{"P and Q wrong, at unlike places", impl.Stripe{Data: right.Data, P: "?" + right.P[1:], Q: right.Q[:1] + "?"}, 0, false},
	}
	for _, c := range cases {
		if got, ok := impl.FindWrong(c.s); got != c.disk || ok != c.ok {
			t.Errorf("%s: got %d %v, want %d %v", c.what, got, ok, c.disk, c.ok)
		}
	}
}

// Two disks wrong may look like a third one: what counts is which alone to change makes it right.
func TestTwoWrongDisksThatLookLikeOne(t *testing.T) {
	zero := rightStripe(slices.Repeat([]string{"\x00"}, impl.MaxDisks)...)
	for disk := range impl.MaxDisks {
		q := byte(1)
		for range disk {
			q = productOf(q, 2)
		}
		s := impl.Stripe{Data: zero.Data, P: "\x01", Q: string([]byte{q})}
		if got, ok := impl.FindWrong(s); got != disk || !ok {
			t.Errorf("P 1 and Q %#x: got %d %v, want %d", q, got, ok, disk)
		}
	}
	// 2^16 is that of no disk.
	q, _ := impl.FieldPow(2, impl.MaxDisks)
	got, ok := impl.FindWrong(impl.Stripe{Data: zero.Data, P: "\x01", Q: string([]byte{q})})
	wantNoNumber(t, "a factor of no disk", got, ok)
	// 2 is that of the second disk, and this stripe has one.
	got, ok = impl.FindWrong(impl.Stripe{Data: []string{"\x00"}, P: "\x01", Q: "\x02"})
	wantNoNumber(t, "a factor of a disk that the stripe does not have", got, ok)
}

func TestUpdateStripeAtTheEdges(t *testing.T) {
	s := rightStripe("abc", "def", "ghi")
	for disk := range 3 {
		got, ok := impl.UpdateStripe(s, disk, "xyz")
		wantStripe(t, "UpdateStripe", got, ok, rightStripe(withDisk(s, disk, "xyz").Data...))
	}
	for _, disk := range []int{3, 4, 5, -1, 1000, math.MaxInt, math.MinInt} {
		got, ok := impl.UpdateStripe(s, disk, "xyz")
		wantNoStripe(t, "UpdateStripe of no Data disk", got, ok)
	}
	for _, text := range []string{"", "xy", "xyzz", strings.Repeat("x", 100000)} {
		got, ok := impl.UpdateStripe(s, 1, text)
		wantNoStripe(t, "UpdateStripe by a text of another length", got, ok)
	}
	none := rightStripe("", "")
	got, ok := impl.UpdateStripe(none, 1, "")
	wantStripe(t, "UpdateStripe of no length", got, ok, none)
	got, ok = impl.UpdateStripe(none, 1, "x")
	wantNoStripe(t, "UpdateStripe of no length by a byte", got, ok)
}
