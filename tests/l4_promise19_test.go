package tests

import (
	"math"
	"strings"
	"testing"

	"loop.example/g00261/impl"
)

// oddNumbers are at and around what a kind of number can hold.
func oddNumbers() []int {
	l := []int{0, -1, math.MaxInt, math.MinInt, math.MaxInt - 1, math.MinInt + 1}
	for k := range 63 {
		l = append(l, 1<<k, -1<<k, 1<<k-1, 1<<k+1)
	}
	return l
}

func TestNumbersThatAreNoBytesAreRefused(t *testing.T) {
	for _, n := range oddNumbers() {
		got, ok := impl.HamEncode(n)
		if n >= 0 && n <= 255 {
			wantNumber(t, "HamEncode", got, ok, wordByTrial(t, n))
			continue
		}
		wantNoNumber(t, "HamEncode", got, ok)
	}
}

func TestNumbersThatAreNoWordsAreRefused(t *testing.T) {
	for _, w := range oddNumbers() {
		n, code, decoded := impl.HamDecode(w)
		weight, weighed := impl.HamWeight(w)
		if w >= 0 && w <= 8191 {
			if !decoded || !weighed {
				t.Errorf("%d is refused", w)
			}
			continue
		}
		if decoded || n != 0 || code != 0 {
			t.Errorf("HamDecode of %d: got %d %d %v", w, n, code, decoded)
		}
		wantNoNumber(t, "HamWeight", weight, weighed)
	}
}

func TestTwoNumbersOneOfThemNoWordAreRefused(t *testing.T) {
	for _, a := range oddNumbers() {
		for _, b := range oddNumbers() {
			got, ok := impl.HamDistance(a, b)
			if min(a, b) >= 0 && max(a, b) <= 8191 {
				wantNumber(t, "HamDistance", got, ok, unlikeBits(a, b))
				continue
			}
			wantNoNumber(t, "HamDistance", got, ok)
		}
	}
}

// Whatever the bytes are, they are refused or come back; what comes back is guarded as it should be.
func TestTextsOfAnyBytesAreAnswered(t *testing.T) {
	s := steps(44)
	for long := range 130 {
		for range 40 {
			text := string(someBytes(&s, long))
			guarded, ok := impl.GuardText(text)
			if ok != (long <= 60) || len(guarded) != 2*long && ok || guarded != "" && !ok {
				t.Fatalf("GuardText of %q: got %q %v", text, guarded, ok)
			}
			mended, many, ok := impl.MendText(text)
			if !ok {
				wantNoMended(t, "refused", mended, many, ok)
				continue
			}
			if long%2 == 1 || long > 120 || len(mended) != long/2 || many < 0 || many > long/2 {
				t.Fatalf("MendText of %q: got %q %d", text, mended, many)
			}
		}
	}
}

// A text that is refused as a whole has nothing told of it, however far it was read.
func TestRefusedTextsTellNothing(t *testing.T) {
	mended := strings.Repeat("\x0e\x00", 59)
	for what, s := range map[string]string{
		"one byte more": mended + "\x00", "a last word too great": mended + "\x00\x20", "a last word MendTwo": mended + "\x03\x00",
		"a first word too great": "\x00\x20" + mended, "a first word MendTwo": "\x03\x00" + mended,
		"one word too many": mended + "\x0e\x00\x0e\x00", "two bytes the other way": mended + "\x1e\xee",
		"all bytes 255": strings.Repeat("\xff", 120),
	} {
		got, many, ok := impl.MendText(s)
		wantNoMended(t, what, got, many, ok)
	}
}

// The answers hang on the arguments alone: asked again, they are the same.
func TestWordsAreToldAgain(t *testing.T) {
	for n := range 256 {
		first, _ := impl.HamEncode(n)
		impl.HamEncode(255 - n)
		impl.HamDecode(first ^ 1<<12)
		second, ok := impl.HamEncode(n)
		wantNumber(t, "HamEncode again", second, ok, first)
		wantDecoded(t, first, n, impl.MendOk)
	}
}
