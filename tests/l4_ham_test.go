package tests

import (
	"math"
	"strings"
	"testing"

	"loop.example/g00261/impl"
)

func wantNoNumber(t *testing.T, what string, got int, ok bool) {
	t.Helper()
	if ok || got != 0 {
		t.Errorf("%s: got %d %v, want the zero answer", what, got, ok)
	}
}

func wantNoMended(t *testing.T, what string, text string, many int, ok bool) {
	t.Helper()
	if ok || text != "" || many != 0 {
		t.Errorf("%s: got %q %d %v, want the zero answer", what, text, many, ok)
	}
}

func wantNoGuarded(t *testing.T, what string, text string, ok bool) {
	t.Helper()
	if ok || text != "" {
		t.Errorf("%s: got %q %v, want the zero answer", what, text, ok)
	}
}

func TestMendCodes(t *testing.T) {
	if impl.MendOk != 0 || impl.MendOne != 1 || impl.MendTwo != 2 {
		t.Error(impl.MendOk, impl.MendOne, impl.MendTwo)
	}
}

func TestWordsByHand(t *testing.T) {
	cases := []struct{ n, word int }{
		{0, 0},
		{1, 1<<3 | 1<<2 | 1<<1 | 1},
		{2, 1<<5 | 1<<4 | 1<<1 | 1},
		{4, 1<<6 | 1<<4 | 1<<2 | 1},
		{8, 1<<7 | 1<<4 | 1<<2 | 1<<1},
		{16, 1<<9 | 1<<8 | 1<<1 | 1},
		{32, 1<<10 | 1<<8 | 1<<2 | 1},
		{64, 1<<11 | 1<<8 | 1<<2 | 1<<1},
		{128, 1<<12 | 1<<8 | 1<<4 | 1},
		{3, 1<<3 | 1<<5 | 1<<4 | 1<<2},
		{255, 1<<3 | 1<<5 | 1<<6 | 1<<7 | 1<<9 | 1<<10 | 1<<11 | 1<<12 | 1<<2 | 1<<1},
	}
	for _, c := range cases {
		if !isWordOf(c.word, c.n) {
			t.Fatalf("%#x is no word of %#x", c.word, c.n)
		}
		got, ok := impl.HamEncode(c.n)
		wantNumber(t, "HamEncode", got, ok, c.word)
		wantDecoded(t, c.word, c.n, impl.MendOk)
	}
}

func TestHamEncodeEdges(t *testing.T) {
	got, ok := impl.HamEncode(0)
	wantNumber(t, "0", got, ok, 0)
	got, ok = impl.HamEncode(255)
	wantNumber(t, "255", got, ok, wordByTrial(t, 255))
	for _, n := range []int{-1, 256, 257, 511, 8191, 1 << 32, 1<<32 + 1, -255, -256, math.MinInt, math.MaxInt} {
		got, ok = impl.HamEncode(n)
		wantNoNumber(t, "no byte", got, ok)
	}
}

func TestHamDecodeOfNoWord(t *testing.T) {
	for _, w := range notWords() {
		n, code, ok := impl.HamDecode(w)
		if n != 0 || code != 0 || ok {
			t.Errorf("HamDecode of %d: got %d %d %v, want the zero answer", w, n, code, ok)
		}
	}
}

// notWords have more than 13 bits, or are below 0.
func notWords() []int {
	return []int{-1, 8192, 8193, 8192 + 15, 16383, 16384, 1 << 32, 1<<32 | 15, -8191, -8192, -15, math.MinInt, math.MaxInt}
}

// xOf is the xor of the numbers of bits that are 1.
func xOf(w int) int {
	x := 0
	for bit := range bitsOfWord {
		x ^= bit * (w >> bit & 1)
	}
	return x
}

func TestHamDecodeEdges(t *testing.T) {
	wantDecoded(t, 0, 0, impl.MendOk)
	wantDecoded(t, 1, 0, impl.MendOne)
	// All 13 bits are odd in number, and the xor of 1..12 is 12: the byte's highest bit is turned.
	wantDecoded(t, 8191, 127, impl.MendOne)
	word := wordByTrial(t, 0xA5)
	for _, c := range []struct {
		what      string
		w, x, n   int
		code, odd int
	}{
		{"odd, x 0: bit 0 turned", word ^ 1, 0, 0xA5, impl.MendOne, 1},
		{"odd, x 1", word ^ 1<<1, 1, 0xA5, impl.MendOne, 1},
		{"odd, x 11", word ^ 1<<11, 11, 0xA5, impl.MendOne, 1},
		{"odd, x 12", word ^ 1<<12, 12, 0xA5, impl.MendOne, 1},
		{"odd, x 13", word ^ 1<<1 ^ 1<<12 ^ 1, 13, 0, impl.MendTwo, 1},
		{"odd, x 14", word ^ 1<<2 ^ 1<<12 ^ 1, 14, 0, impl.MendTwo, 1},
		{"odd, x 15", word ^ 1<<3 ^ 1<<12 ^ 1, 15, 0, impl.MendTwo, 1},
		{"even, x 0", word, 0, 0xA5, impl.MendOk, 0},
		{"even, x 1", word ^ 1<<1 ^ 1, 1, 0, impl.MendTwo, 0},
		{"even, x 12", word ^ 1<<12 ^ 1, 12, 0, impl.MendTwo, 0},
		{"even, x 13", word ^ 1<<12 ^ 1<<1, 13, 0, impl.MendTwo, 0},
		{"even, x 15", word ^ 1<<12 ^ 1<<3, 15, 0, impl.MendTwo, 0},
	} {
		if xOf(c.w) != c.x || unlikeBits(c.w, 0)%2 != c.odd {
			t.Fatalf("%s: x is %d", c.what, xOf(c.w))
		}
		wantDecoded(t, c.w, c.n, c.code)
	}
}

// All words, each by what its parity and x say.
func TestHamDecodeByParityAndX(t *testing.T) {
	for w := range allWords {
		n, code, ok := impl.HamDecode(w)
		if !ok {
			t.Fatalf("%#x: refused", w)
		}
		odd, x := unlikeBits(w, 0)%2 == 1, xOf(w)
		switch {
		case !odd && x == 0:
			if code != impl.MendOk || !isWordOf(w, n) {
				t.Fatalf("%#x: got %#x %d", w, n, code)
			}
		case odd && x <= 12:
			if code != impl.MendOne || !isWordOf(w^1<<x, n) {
				t.Fatalf("%#x: got %#x %d", w, n, code)
			}
		default:
			if code != impl.MendTwo || n != 0 {
				t.Fatalf("%#x: got %#x %d", w, n, code)
			}
		}
	}
}

func TestHamWeightEdges(t *testing.T) {
	for w, want := range map[int]int{0: 0, 1: 1, 4096: 1, 4097: 2, 4095: 12, 8190: 12, 8191: 13} {
		got, ok := impl.HamWeight(w)
		wantNumber(t, "HamWeight", got, ok, want)
	}
	for _, w := range notWords() {
		got, ok := impl.HamWeight(w)
		wantNoNumber(t, "HamWeight of no word", got, ok)
	}
}

func TestHamDistanceEdges(t *testing.T) {
	for _, c := range [][3]int{
		{0, 0, 0}, {0, 8191, 13}, {8191, 0, 13}, {8191, 8191, 0}, {0, 1, 1}, {4096, 0, 1}, {4096, 8191, 12}, {5, 6, 2},
	} {
		got, ok := impl.HamDistance(c[0], c[1])
		wantNumber(t, "HamDistance", got, ok, c[2])
	}
	for _, w := range notWords() {
		for _, other := range []int{0, 1, 8191} {
			got, ok := impl.HamDistance(w, other)
			wantNoNumber(t, "the first is no word", got, ok)
			got, ok = impl.HamDistance(other, w)
			wantNoNumber(t, "the second is no word", got, ok)
		}
		// No bits are unlike, or few, and yet they are no words.
		for _, other := range append(notWords(), w, w^1) {
			got, ok := impl.HamDistance(w, other)
			wantNoNumber(t, "two that are no words", got, ok)
		}
	}
}

func TestGuardTextEdges(t *testing.T) {
	wantGuarded(t, "", "")
	wantGuarded(t, "\x00", "\x00\x00")
	wantGuarded(t, "\x01", "\x0f\x00")
	wantGuarded(t, "\x80", "\x11\x11")
	wantGuarded(t, "\xff", "\xee\x1e")
	wantGuarded(t, "\x01\x80\x00", "\x0f\x00\x11\x11\x00\x00")
	wantGuarded(t, strings.Repeat("\x01", 59), strings.Repeat("\x0f\x00", 59))
	wantGuarded(t, strings.Repeat("\x01", 60), strings.Repeat("\x0f\x00", 60))
	for _, long := range []int{61, 62, 120, 121, 256, 1000000} {
		for _, c := range []string{"\x00", "\x01", "a", "\xff"} {
			got, ok := impl.GuardText(strings.Repeat(c, long))
			wantNoGuarded(t, "too long", got, ok)
		}
	}
}

// Bytes count, not runes: 20 runes of three bytes fit, one byte more does not.
func TestGuardTextCountsBytes(t *testing.T) {
	text := strings.Repeat("€", 20)
	guarded, ok := impl.GuardText(text)
	if !ok || len(guarded) != 120 {
		t.Fatalf("got %q %v", guarded, ok)
	}
	wantMended(t, "runes", guarded, text, 0)
	got, ok := impl.GuardText(text + "a")
	wantNoGuarded(t, "61 bytes", got, ok)
	wantGuarded(t, "\xc3\x28", pairs(wordByTrial(t, 0xC3), wordByTrial(t, 0x28)))
}

func TestMendTextLengths(t *testing.T) {
	wantMended(t, "no bytes", "", "", 0)
	wantMended(t, "two bytes", "\x0f\x00", "\x01", 0)
	wantMended(t, "118 bytes", strings.Repeat("\x0f\x00", 59), strings.Repeat("\x01", 59), 0)
	wantMended(t, "120 bytes", strings.Repeat("\x0f\x00", 60), strings.Repeat("\x01", 60), 0)
	wantMended(t, "120 bytes, each word mended", strings.Repeat("\x0e\x00", 60), strings.Repeat("\x01", 60), 60)
	for long := 1; long < 125; long += 2 {
		got, many, ok := impl.MendText(strings.Repeat("\x00", long))
		wantNoMended(t, "an odd number", got, many, ok)
	}
	for _, long := range []int{121, 122, 123, 124, 240, 256, 1000000, 1000001} {
		got, many, ok := impl.MendText(strings.Repeat("\x00", long))
		wantNoMended(t, "too many", got, many, ok)
	}
}

func TestMendTextOfSecondBytes(t *testing.T) {
	wantMended(t, "30", "\xee\x1e", "\xff", 0)
	wantMended(t, "31", "\xee\x1f", "\xff", 1)
	wantMended(t, "31", "\xff\x1f", "\x7f", 1)
	for second := 32; second < 256; second++ {
		for _, first := range []byte{0, 1, 0x0f, 0x0e, 0xff} {
			wrong := string([]byte{first, byte(second)})
			for _, s := range []string{wrong, wrong + "\x0f\x00", "\x0f\x00" + wrong, "\x0e\x00" + wrong + "\x0e\x00"} {
				got, many, ok := impl.MendText(s)
				wantNoMended(t, "a second byte too great", got, many, ok)
			}
		}
	}
	// The first byte may be any.
	for first := range 256 {
		for second := range 32 {
			n, code, _ := impl.HamDecode(first | second<<8)
			s := "\x0f\x00" + string([]byte{byte(first), byte(second)})
			if code == impl.MendTwo {
				got, many, ok := impl.MendText(s)
				wantNoMended(t, "MendTwo", got, many, ok)
				continue
			}
			wantMended(t, "two words", s, "\x01"+string([]byte{byte(n)}), code)
		}
	}
}

// MendTwo at any place refuses all, also where the others were mended.
func TestMendTextWithOneWordMendTwo(t *testing.T) {
	for long := 1; long <= 60; long++ {
		for place := range long {
			for _, others := range []string{"\x0f\x00", "\x0e\x00"} {
				s := strings.Repeat(others, place) + "\x0c\x00" + strings.Repeat(others, long-place-1)
				got, many, ok := impl.MendText(s)
				wantNoMended(t, "one word MendTwo", got, many, ok)
			}
		}
	}
}
