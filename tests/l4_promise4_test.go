package tests

import (
	"strings"
	"testing"

	"loop.example/g00261/impl"
)

const (
	bitsOfWord = 13
	allWords   = 1 << bitsOfWord
)

// isWordOf asks one by one what the document says of a word and its byte.
func isWordOf(w int, n int) bool {
	ones, x := 0, 0
	for bit := range bitsOfWord {
		if w>>bit&1 == 1 {
			ones++
			x ^= bit
		}
	}
	for i, bit := range []int{3, 5, 6, 7, 9, 10, 11, 12} {
		if w>>bit&1 != n>>i&1 {
			return false
		}
	}
	return ones%2 == 0 && x == 0
}

// wordByTrial looks through all words for the one of a byte.
func wordByTrial(t *testing.T, n int) int {
	t.Helper()
	word, many := 0, 0
	for w := range allWords {
		if isWordOf(w, n) {
			word = w
			many++
		}
	}
	if many != 1 {
		t.Fatalf("%d words of %#x", many, n)
	}
	return word
}

func wordsByTrial(t *testing.T) [256]int {
	t.Helper()
	var words [256]int
	for n := range words {
		words[n] = wordByTrial(t, n)
	}
	return words
}

// unlikeBits counts the bits of two words one by one.
func unlikeBits(a int, b int) int {
	many := 0
	for bit := range bitsOfWord {
		if a>>bit&1 != b>>bit&1 {
			many++
		}
	}
	return many
}

func wantNumber(t *testing.T, what string, got int, ok bool, want int) {
	t.Helper()
	if !ok || got != want {
		t.Errorf("%s: got %d %v, want %d", what, got, ok, want)
	}
}

func wantDecoded(t *testing.T, w int, n int, code int) {
	t.Helper()
	gotN, gotCode, ok := impl.HamDecode(w)
	if !ok || gotN != n || gotCode != code {
		t.Errorf("HamDecode of %#x: got %#x %d %v, want %#x %d", w, gotN, gotCode, ok, n, code)
	}
}

func wantGuarded(t *testing.T, text string, want string) {
	t.Helper()
	got, ok := impl.GuardText(text)
	if !ok || got != want {
		t.Errorf("GuardText of %q: got %q %v, want %q", text, got, ok, want)
	}
}

func wantMended(t *testing.T, what string, s string, text string, many int) {
	t.Helper()
	got, gotMany, ok := impl.MendText(s)
	if !ok || got != text || gotMany != many {
		t.Errorf("%s: MendText of %q: got %q %d %v, want %q %d", what, s, got, gotMany, ok, text, many)
	}
}

// pairs writes words in two bytes each, the lowest first.
func pairs(words ...int) string {
	var b strings.Builder
	for _, w := range words {
		b.WriteByte(byte(w % 256))
		b.WriteByte(byte(w / 256))
	}
	return b.String()
}

func TestEachByteHasItsWord(t *testing.T) {
	for n, want := range wordsByTrial(t) {
		got, ok := impl.HamEncode(n)
		wantNumber(t, "HamEncode", got, ok, want)
	}
}

func TestAWordComesBack(t *testing.T) {
	for n, w := range wordsByTrial(t) {
		wantDecoded(t, w, n, impl.MendOk)
	}
}

func TestAWordWithOneBitTurnedIsToldRight(t *testing.T) {
	for n, w := range wordsByTrial(t) {
		for bit := range bitsOfWord {
			wantDecoded(t, w^1<<bit, n, impl.MendOne)
		}
	}
}

func TestAWordWithTwoBitsTurnedIsSeen(t *testing.T) {
	for _, w := range wordsByTrial(t) {
		for a := range bitsOfWord {
			for b := range a {
				wantDecoded(t, w^1<<a^1<<b, 0, impl.MendTwo)
			}
		}
	}
}

// What is one bit from a word is taken for it; all else, whatever was turned, is seen.
func TestAllThirteenBitsAreToldByTheNearestWord(t *testing.T) {
	words := wordsByTrial(t)
	for w := range allWords {
		wantN, wantCode := 0, impl.MendTwo
		for n, word := range words {
			if unlike := unlikeBits(w, word); unlike < 2 {
				wantN, wantCode = n, unlike
			}
		}
		wantDecoded(t, w, wantN, wantCode)
	}
}

func TestWordsOfUnlikeBytesDifferInFourBits(t *testing.T) {
	least := bitsOfWord
	for a := range 256 {
		for b := range a {
			wa, _ := impl.HamEncode(a)
			wb, _ := impl.HamEncode(b)
			got, ok := impl.HamDistance(wa, wb)
			wantNumber(t, "HamDistance", got, ok, unlikeBits(wa, wb))
			if got < 4 {
				t.Fatalf("the words of %#x and %#x differ in %d bits", a, b, got)
			}
			least = min(least, got)
		}
	}
	if least != 4 {
		t.Errorf("no two words differ in just four bits, but in %d", least)
	}
}

func TestWeightOfAllWords(t *testing.T) {
	for w := range allWords {
		got, ok := impl.HamWeight(w)
		wantNumber(t, "HamWeight", got, ok, unlikeBits(w, 0))
	}
}

func TestDistanceOfWords(t *testing.T) {
	s := steps(40)
	for a := range allWords {
		for _, b := range []int{a, 0, allWords - 1, a ^ 1, a ^ 1<<12, s.below(allWords), s.below(allWords)} {
			got, ok := impl.HamDistance(a, b)
			wantNumber(t, "HamDistance", got, ok, unlikeBits(a, b))
			got, ok = impl.HamDistance(b, a)
			wantNumber(t, "HamDistance the other way", got, ok, unlikeBits(a, b))
		}
	}
}

// guardedByTrial is a text's words.
func guardedByTrial(words [256]int, text []byte) []int {
	l := make([]int, len(text))
	for i, c := range text {
		l[i] = words[c]
	}
	return l
}

func TestATextComesBackFromItsWords(t *testing.T) {
	words := wordsByTrial(t)
	s := steps(41)
	for long := range 61 {
		for range 5 {
			text := someBytes(&s, long)
			guarded := pairs(guardedByTrial(words, text)...)
			wantGuarded(t, string(text), guarded)
			wantMended(t, "no bit turned", guarded, string(text), 0)
		}
	}
	for c := range 256 {
		text := strings.Repeat(string([]byte{byte(c)}), 60)
		guarded, _ := impl.GuardText(text)
		wantMended(t, "one byte 60 times", guarded, text, 0)
	}
}

func TestATextComesBackWithOneBitOfEachWordTurned(t *testing.T) {
	words := wordsByTrial(t)
	s := steps(42)
	for long := range 61 {
		for turned := range bitsOfWord {
			text := someBytes(&s, long)
			each, some, at := guardedByTrial(words, text), guardedByTrial(words, text), guardedByTrial(words, text)
			many := 0
			for i := range text {
				each[i] ^= 1 << s.below(bitsOfWord)
				at[i] ^= 1 << turned
				if s.below(2) == 0 {
					some[i] ^= 1 << s.below(bitsOfWord)
					many++
				}
			}
			wantMended(t, "one bit of each word", pairs(each...), string(text), long)
			wantMended(t, "the same bit of each word", pairs(at...), string(text), long)
			wantMended(t, "one bit of some words", pairs(some...), string(text), many)
		}
	}
}

func TestATextWithTwoBitsOfOneWordTurnedIsSeen(t *testing.T) {
	words := wordsByTrial(t)
	s := steps(43)
	for long := 1; long <= 60; long++ {
		text := someBytes(&s, long)
		for a := range bitsOfWord {
			for b := range a {
				l := guardedByTrial(words, text)
				for i := range l {
					l[i] ^= s.below(2) << s.below(bitsOfWord)
				}
				wrong := s.below(long)
				l[wrong] = words[text[wrong]] ^ 1<<a ^ 1<<b
				got, many, ok := impl.MendText(pairs(l...))
				wantNoMended(t, "two bits of one word", got, many, ok)
			}
		}
	}
}
