package tests

import (
	"math"
	"slices"
	"strings"
	"testing"

	"loop.example/g00261/impl"
)

// badStripes are not as said, each in one way.
func badStripes() []impl.Stripe {
	most, over := strings.Repeat("x", impl.MaxStripe), strings.Repeat("x", impl.MaxStripe+1)
	return []impl.Stripe{
		{}, {Data: []string{}}, {P: "abc", Q: "abc"},
		{Data: []string{"abc"}}, {Data: []string{"abc"}, P: "abc"}, {Data: []string{"abc"}, Q: "abc"},
		{Data: []string{"abc"}, P: "ab", Q: "abc"}, {Data: []string{"abc"}, P: "abcd", Q: "abc"},
		{Data: []string{"abc"}, P: "abc", Q: "ab"}, {Data: []string{"abc"}, P: "abc", Q: "abcd"},
		{Data: []string{"abc", "ab"}, P: "abc", Q: "abc"}, {Data: []string{"ab", "abc"}, P: "abc", Q: "abc"},
		{Data: []string{"abc", "", "abc"}, P: "abc", Q: "abc"}, {Data: []string{"", "a"}},
		{Data: texts(impl.MaxDisks+1, 3), P: "abc", Q: "abc"},
		{Data: texts(impl.MaxDisks+1, 0)}, {Data: make([]string, 100000)},
		{Data: []string{over}, P: over, Q: over}, {Data: []string{over}, P: most, Q: most},
		{Data: []string{most}, P: over, Q: most}, {Data: []string{most}, P: most, Q: over},
	}
}

func TestBadStripesAreRefused(t *testing.T) {
	numbers := []int{0, 1, 2, 3, -1, impl.MaxDisks, impl.MaxDisks + 1, impl.MaxDisks + 2, math.MaxInt, math.MinInt}
	for _, s := range badStripes() {
		if impl.GoodStripe(s) {
			t.Errorf("%q is good", s)
		}
		if right, ok := impl.CheckStripe(s); right || ok {
			t.Errorf("CheckStripe: got %v %v, want the zero answer", right, ok)
		}
		disk, ok := impl.FindWrong(s)
		wantNoNumber(t, "FindWrong", disk, ok)
		for _, a := range numbers {
			got, ok := impl.RecoverOne(s, a)
			wantNoStripe(t, "RecoverOne", got, ok)
			for _, b := range numbers {
				got, ok = impl.RecoverTwo(s, a, b)
				wantNoStripe(t, "RecoverTwo", got, ok)
			}
			for _, text := range []string{"", "a", "abc", strings.Repeat("x", impl.MaxStripe), strings.Repeat("x", impl.MaxStripe+1)} {
				got, ok = impl.UpdateStripe(s, a, text)
				wantNoStripe(t, "UpdateStripe", got, ok)
			}
		}
	}
}

// roomyTexts has texts behind its length that are none of its own.
func roomyTexts(l ...string) []string {
	out := slices.Concat(l, []string{"behind", "behind"})
	return out[:len(l):len(out)]
}

func wantRoomyTexts(t *testing.T, what string, l []string, want ...string) {
	t.Helper()
	if len(l) != len(want) || cap(l) != len(want)+2 || !slices.Equal(l[:cap(l)], slices.Concat(want, []string{"behind", "behind"})) {
		t.Errorf("%s: written into: %q", what, l[:cap(l)])
	}
}

// roomyStripe is not right, so that each function has something to tell.
func roomyStripe() impl.Stripe {
	s := rightStripe("abc", "d?f", "ghi")
	s.P, s.Q = rightStripe("abc", "def", "ghi").P, rightStripe("abc", "def", "ghi").Q
	s.Data = roomyTexts(s.Data...)
	return s
}

// wantStripeApart: what the answer has at its whole capacity is its own, and nothing from behind the argument's length.
func wantStripeApart(t *testing.T, what string, s impl.Stripe, got impl.Stripe, ok bool) {
	t.Helper()
	wantRoomyTexts(t, what, s.Data, roomyStripe().Data...)
	if !ok || len(got.Data) != 3 || slices.Contains(got.Data[:cap(got.Data)], "behind") {
		t.Errorf("%s: got %q %v", what, got.Data[:cap(got.Data)], ok)
	}
	held := slices.Clone(got.Data)
	spoil(got.Data, "spoilt")
	wantRoomyTexts(t, what+", the answer spoilt", s.Data, roomyStripe().Data...)
	copy(got.Data, held)
	spoil(s.Data, "spoilt")
	if !slices.Equal(got.Data, held) {
		t.Errorf("%s: the answer changed with the argument", what)
	}
}

func TestStripeAnswersAreNewMemory(t *testing.T) {
	for a := range 5 {
		s := roomyStripe()
		got, ok := impl.RecoverOne(s, a)
		wantStripeApart(t, "RecoverOne", s, got, ok)
		for b := range 5 {
			if a != b {
				s = roomyStripe()
				got, ok = impl.RecoverTwo(s, a, b)
				wantStripeApart(t, "RecoverTwo", s, got, ok)
			}
		}
	}
	for disk := range 3 {
		for _, text := range []string{"xyz", roomyStripe().Data[disk]} {
			s := roomyStripe()
			got, ok := impl.UpdateStripe(s, disk, text)
			wantStripeApart(t, "UpdateStripe", s, got, ok)
		}
	}
	s := roomyStripe()
	got, ok := impl.MakeStripe(s.Data)
	wantStripeApart(t, "MakeStripe", s, got, ok)
}

// A right stripe, of which nothing is to be changed, is still copied.
func TestStripesThatStayAreNewMemory(t *testing.T) {
	for _, length := range []int{0, 3} {
		s := rightStripe(texts(3, length)...)
		for _, do := range []func() (impl.Stripe, bool){
			func() (impl.Stripe, bool) { return impl.RecoverOne(s, 0) },
			func() (impl.Stripe, bool) { return impl.RecoverTwo(s, 0, 4) },
			func() (impl.Stripe, bool) { return impl.UpdateStripe(s, 2, s.Data[2]) },
			func() (impl.Stripe, bool) { return impl.MakeStripe(s.Data) },
		} {
			got, ok := do()
			wantStripe(t, "nothing to change", got, ok, s)
			spoil(got.Data, "spoilt")
			if !slices.Equal(s.Data, texts(3, length)) {
				t.Fatal("the argument changed with the answer")
			}
		}
	}
}

// What lies behind the length is no disk.
func TestDisksBehindTheLengthAreNone(t *testing.T) {
	s := rightStripe("abcdef", "ghijkl")
	right := s
	right.Data = roomyTexts(s.Data...)
	wantRight(t, "with texts behind", right, true)
	got, ok := impl.MakeStripe(right.Data)
	wantStripe(t, "MakeStripe with texts behind", got, ok, s)
	got, ok = impl.UpdateStripe(right, 2, "behind")
	wantNoStripe(t, "UpdateStripe behind the length", got, ok)
	got, ok = impl.RecoverOne(right, 4)
	wantNoStripe(t, "RecoverOne behind the length", got, ok)
	none := roomyTexts()
	got, ok = impl.MakeStripe(none)
	wantNoStripe(t, "MakeStripe of no texts, with texts behind", got, ok)
	wantRoomyTexts(t, "MakeStripe", none)
}

func TestQuestionsAndRefusalsWriteIntoNoStripe(t *testing.T) {
	s := roomyStripe()
	impl.GoodStripe(s)
	impl.CheckStripe(s)
	if disk, ok := impl.FindWrong(s); disk != 1 || !ok {
		t.Error(disk, ok)
	}
	impl.RecoverOne(s, -1)
	impl.RecoverOne(s, 5)
	impl.RecoverTwo(s, 1, 1)
	impl.RecoverTwo(s, 0, 5)
	impl.RecoverTwo(s, -1, 0)
	impl.UpdateStripe(s, 3, "xyz")
	impl.UpdateStripe(s, 0, "wxyz")
	wantRoomyTexts(t, "asked and refused", s.Data, roomyStripe().Data...)
}
