package tests

import (
	"slices"
	"testing"

	"loop.example/g00261/impl"
)

// rightStripe is reckoned by hand, so that a test of it does not lean on MakeStripe.
func rightStripe(data ...string) impl.Stripe {
	length := len(data[0])
	p, q := make([]byte, length), make([]byte, length)
	times := byte(1)
	for _, text := range data {
		for k := range length {
			p[k] ^= text[k]
			q[k] ^= productOf(times, text[k])
		}
		times = productOf(times, 2)
	}
	return impl.Stripe{Data: slices.Clone(data), P: string(p), Q: string(q)}
}

func someTexts(s *steps, many int, length int) []string {
	l := make([]string, many)
	for i := range l {
		l[i] = string(someBytes(s, length))
	}
	return l
}

func someStripe(s *steps, disks int, length int) impl.Stripe {
	return rightStripe(someTexts(s, disks, length)...)
}

// withDisk is a copy that has another text at one disk.
func withDisk(s impl.Stripe, disk int, text string) impl.Stripe {
	s.Data = slices.Clone(s.Data)
	switch disk {
	case len(s.Data):
		s.P = text
	case len(s.Data) + 1:
		s.Q = text
	default:
		s.Data[disk] = text
	}
	return s
}

func diskOf(s impl.Stripe, disk int) string {
	return slices.Concat(s.Data, []string{s.P, s.Q})[disk]
}

// unlikeText differs from the text in each byte that it has, or in one alone.
func unlikeText(s *steps, text string) string {
	l := []byte(text)
	only := s.below(2 * len(l))
	for k := range l {
		if only >= len(l) || only == k {
			l[k] ^= byte(1 + s.below(255))
		}
	}
	return string(l)
}

func sameStripe(a, b impl.Stripe) bool {
	return slices.Equal(a.Data, b.Data) && a.P == b.P && a.Q == b.Q
}

func wantStripe(t *testing.T, what string, got impl.Stripe, ok bool, want impl.Stripe) {
	t.Helper()
	if !ok || !sameStripe(got, want) {
		t.Errorf("%s: got %q %v, want %q true", what, got, ok, want)
	}
}

func wantRight(t *testing.T, what string, s impl.Stripe, want bool) {
	t.Helper()
	if !impl.GoodStripe(s) {
		t.Errorf("%s: %q is not good", what, s)
	}
	if right, ok := impl.CheckStripe(s); right != want || !ok {
		t.Errorf("%s: CheckStripe of %q: got %v %v, want %v true", what, s, right, ok, want)
	}
}

// stripesOfAllSizes has each number of disks, and each length that is told.
func stripesOfAllSizes(seed steps, lengths ...int) []impl.Stripe {
	var l []impl.Stripe
	for disks := 1; disks <= impl.MaxDisks; disks++ {
		for _, length := range lengths {
			l = append(l, someStripe(&seed, disks, length))
		}
	}
	return l
}

func TestMakeStripeIsRight(t *testing.T) {
	for _, want := range stripesOfAllSizes(30, 0, 1, 2, 7, impl.MaxStripe-1, impl.MaxStripe) {
		got, ok := impl.MakeStripe(want.Data)
		wantStripe(t, "MakeStripe", got, ok, want)
		wantRight(t, "MakeStripe", got, true)
	}
}

// All bytes on each disk, so that each factor of Q is held against the field.
func TestMakeStripeOfEachByteOnEachDisk(t *testing.T) {
	for disk := range impl.MaxDisks {
		for c := range 256 {
			data := slices.Repeat([]string{"\x00"}, impl.MaxDisks)
			data[disk] = string([]byte{byte(c)})
			got, ok := impl.MakeStripe(data)
			wantStripe(t, "MakeStripe", got, ok, rightStripe(data...))
		}
	}
}

func TestAnyOneDiskComesBack(t *testing.T) {
	s := steps(31)
	for _, want := range stripesOfAllSizes(32, 0, 1, 5, impl.MaxStripe) {
		for disk := range len(want.Data) + 2 {
			length := len(want.P)
			for _, text := range []string{string(make([]byte, length)), string(someBytes(&s, length)), diskOf(want, disk)} {
				got, ok := impl.RecoverOne(withDisk(want, disk, text), disk)
				wantStripe(t, "RecoverOne", got, ok, want)
			}
		}
	}
}

// Each pair in both orders, P and Q among them.
func TestAnyTwoDisksComeBack(t *testing.T) {
	s := steps(33)
	for _, want := range stripesOfAllSizes(34, 0, 1, 5, impl.MaxStripe) {
		length := len(want.P)
		for a := range len(want.Data) + 2 {
			for b := range len(want.Data) + 2 {
				if a == b {
					continue
				}
				lost := withDisk(withDisk(want, a, string(someBytes(&s, length))), b, string(someBytes(&s, length)))
				got, ok := impl.RecoverTwo(lost, a, b)
				wantStripe(t, "RecoverTwo", got, ok, want)
				got, ok = impl.RecoverTwo(withDisk(want, b, lost.P), a, b)
				wantStripe(t, "RecoverTwo of one that is lost and one that is there", got, ok, want)
				got, ok = impl.RecoverTwo(want, a, b)
				wantStripe(t, "RecoverTwo of two that are there", got, ok, want)
			}
		}
	}
}

// All bytes of both disks: nothing of what they have counts.
func TestTwoDisksComeBackWhateverTheyHave(t *testing.T) {
	want := rightStripe("\x53", "\xCA", "\x01")
	for _, pair := range [][2]int{{0, 1}, {2, 0}, {1, 3}, {4, 2}, {3, 4}} {
		for x := range 256 {
			for y := range 256 {
				lost := withDisk(withDisk(want, pair[0], string([]byte{byte(x)})), pair[1], string([]byte{byte(y)}))
				got, ok := impl.RecoverTwo(lost, pair[0], pair[1])
				if !ok || !sameStripe(got, want) {
					t.Fatalf("disks %v of %q: got %q %v", pair, lost, got, ok)
				}
			}
		}
	}
}

// Of any good stripe, right or not, two disks can make it right, and one alone is what P (or all Data) tells.
func TestRecoverOfStripesThatWereNotRight(t *testing.T) {
	s := steps(35)
	for range 300 {
		disks, length := 1+s.below(impl.MaxDisks), s.below(impl.MaxStripe+1)
		l := someTexts(&s, disks+2, length)
		was := impl.Stripe{Data: l[:disks:disks], P: l[disks], Q: l[disks+1]}
		a := s.below(disks + 2)
		b := (a + 1 + s.below(disks+1)) % (disks + 2)
		got, ok := impl.RecoverTwo(was, a, b)
		wantStripe(t, "RecoverTwo", got, ok, rightStripe(got.Data...))
		for disk := range disks + 2 {
			if disk != a && disk != b && diskOf(got, disk) != diskOf(was, disk) {
				t.Errorf("RecoverTwo of %d and %d changed %d", a, b, disk)
			}
		}
		one, ok := impl.RecoverOne(was, a)
		byP := rightStripe(one.Data...)
		want := withDisk(was, a, diskOf(one, a))
		wantStripe(t, "RecoverOne", one, ok, want)
		if a <= disks && one.P != byP.P || a == disks+1 && one.Q != byP.Q {
			t.Errorf("RecoverOne of %d: got %q of %q", a, one, was)
		}
	}
}

func TestAnUpdateIsWhatMakeStripeMakes(t *testing.T) {
	s := steps(36)
	for _, was := range stripesOfAllSizes(37, 0, 1, 5, impl.MaxStripe) {
		for disk := range was.Data {
			text := string(someBytes(&s, len(was.P)))
			data := slices.Clone(was.Data)
			data[disk] = text
			got, ok := impl.UpdateStripe(was, disk, text)
			wantStripe(t, "UpdateStripe", got, ok, rightStripe(data...))
			made, ok := impl.MakeStripe(data)
			wantStripe(t, "MakeStripe of the changed data", made, ok, got)
			got, ok = impl.UpdateStripe(got, disk, was.Data[disk])
			wantStripe(t, "UpdateStripe back", got, ok, was)
			got, ok = impl.UpdateStripe(was, disk, was.Data[disk])
			wantStripe(t, "UpdateStripe by the same text", got, ok, was)
		}
	}
}

// What was wrong of P and Q stays wrong: they are changed by what the text differs, not made anew.
func TestAnUpdateKeepsWhatWasWrong(t *testing.T) {
	s := steps(38)
	for range 200 {
		right := someStripe(&s, 1+s.below(impl.MaxDisks), 1+s.below(impl.MaxStripe))
		p, q := unlikeText(&s, right.P), unlikeText(&s, right.Q)
		disk := s.below(len(right.Data))
		text := string(someBytes(&s, len(right.P)))
		want := rightStripe(withDisk(right, disk, text).Data...)
		want.P, want.Q = sumOf(want.P, p, right.P), sumOf(want.Q, q, right.Q)
		got, ok := impl.UpdateStripe(impl.Stripe{Data: right.Data, P: p, Q: q}, disk, text)
		wantStripe(t, "UpdateStripe of a stripe that is not right", got, ok, want)
	}
}

func sumOf(l ...string) string {
	sum := make([]byte, len(l[0]))
	for _, text := range l {
		for k := range sum {
			sum[k] ^= text[k]
		}
	}
	return string(sum)
}

func TestFindWrongTellsTheOneDisk(t *testing.T) {
	s := steps(39)
	for _, right := range stripesOfAllSizes(40, 1, 2, 5, impl.MaxStripe) {
		for disk := range len(right.Data) + 2 {
			for range 3 {
				wrong := withDisk(right, disk, unlikeText(&s, diskOf(right, disk)))
				wantRight(t, "one disk wrong", wrong, false)
				if got, ok := impl.FindWrong(wrong); got != disk || !ok {
					t.Errorf("disk %d of %q: got %d %v", disk, wrong, got, ok)
				}
			}
		}
	}
}

// wrongByTrial looks for the disks of which alone to change makes a stripe of texts of one byte right, by all there are.
func wrongByTrial(s impl.Stripe) []int {
	var l []int
	for disk := range len(s.Data) + 2 {
		for c := range 256 {
			x := withDisk(s, disk, string([]byte{byte(c)}))
			if sameStripe(x, rightStripe(x.Data...)) {
				l = append(l, disk)
			}
		}
	}
	return l
}

func TestFindWrongIsWhatTrialTells(t *testing.T) {
	s := steps(41)
	found := 0
	for range 400 {
		disks := 1 + s.below(impl.MaxDisks)
		l := someTexts(&s, disks+2, 1)
		x := impl.Stripe{Data: l[:disks], P: l[disks], Q: l[disks+1]}
		if right := rightStripe(x.Data...); s.below(2) == 0 {
			a, b := s.below(disks+2), s.below(disks+2)
			x = withDisk(withDisk(right, a, l[0]), b, l[1])
		}
		if sameStripe(x, rightStripe(x.Data...)) {
			continue
		}
		want := wrongByTrial(x)
		got, ok := impl.FindWrong(x)
		if ok != (len(want) == 1) || ok && got != want[0] || !ok && got != 0 {
			t.Errorf("%q: got %d %v, want %v", x, got, ok, want)
		}
		found += len(want)
	}
	if found < 30 {
		t.Errorf("only %d stripes had one disk wrong", found)
	}
}
