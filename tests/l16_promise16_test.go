package tests

import (
	"slices"
	"strings"
	"testing"

	"loop.example/g00261/impl"
)

func plainToken(s string) impl.Token {
	return impl.Token{Plain: s}
}

func backToken(dist int, long int) impl.Token {
	return impl.Token{Dist: dist, Long: long}
}

// tokensIn reads a token a word: dist:long, or else its Plain.
func tokensIn(text string) []impl.Token {
	var l []impl.Token
	for _, word := range strings.Fields(text) {
		dist, long, is := strings.Cut(word, ":")
		if is {
			l = append(l, backToken(numberIn(dist), numberIn(long)))
		} else {
			l = append(l, plainToken(word))
		}
	}
	return l
}

// longestByWords asks of one byte more each time which of all Dists are left, and tells the least of the last ones.
func longestByWords(s string, at int) (int, int) {
	var left []int
	for dist := range min(255, at) {
		left = append(left, dist+1)
	}
	dist, long := 0, 0
	for n := 1; n <= 66 && at+n <= len(s); n++ {
		left = slices.DeleteFunc(left, func(dist int) bool { return s[at+n-1] != s[at+n-1-dist] })
		if len(left) > 0 && n >= 3 {
			dist, long = left[0], n
		}
	}
	return dist, long
}

// tokensByWords gathers all that is plain up to the next stretch, and cuts it then.
func tokensByWords(s string) []impl.Token {
	var l []impl.Token
	var plain []byte
	cutPlain := func() {
		for part := range slices.Chunk(plain, 64) {
			l = append(l, plainToken(string(part)))
		}
		plain = nil
	}
	for at := 0; at < len(s); {
		dist, long := longestByWords(s, at)
		if long == 0 {
			plain = append(plain, s[at])
			at++
			continue
		}
		cutPlain()
		l = append(l, backToken(dist, long))
		at += long
	}
	cutPlain()
	return l
}

func goodTokensByWords(l []impl.Token) bool {
	told := 0
	for i, x := range l {
		isPlain := len(x.Plain) >= 1 && len(x.Plain) <= 64 && x.Dist == 0 && x.Long == 0
		isBack := x.Plain == "" && x.Dist >= 1 && x.Dist <= 255 && x.Long >= 3 && x.Long <= 66
		if !isPlain && !isBack || x.Dist > told {
			return false
		}
		if isPlain && len(x.Plain) < 64 && i+1 < len(l) && l[i+1].Plain != "" {
			return false
		}
		told += len(x.Plain) + x.Long
	}
	return told <= 600
}

// toldByWords takes the bytes ahead again and again, as often as they are asked for.
func toldByWords(l []impl.Token) string {
	s := ""
	for _, x := range l {
		if x.Plain != "" {
			s += x.Plain
			continue
		}
		ahead := s[len(s)-x.Dist:]
		s += strings.Repeat(ahead, x.Long)[:x.Long]
	}
	return s
}

func packedByWords(l []impl.Token) string {
	s := ""
	for _, x := range l {
		if x.Plain != "" {
			s += string([]byte{byte(len(x.Plain) - 1)}) + x.Plain
		} else {
			s += string([]byte{byte(64 + x.Long - 3), byte(x.Dist)})
		}
	}
	return s
}

// unpackedByWords reads on behind the end, as if bytes 0 stood there: what is cut short has other bytes then.
func unpackedByWords(s string) ([]impl.Token, bool) {
	var l []impl.Token
	beyond := s + strings.Repeat("\x00", 65)
	for at := 0; at < len(s); {
		head := int(beyond[at])
		if head < 64 {
			l = append(l, plainToken(beyond[at+1:at+2+head]))
			at += 2 + head
		} else {
			l = append(l, backToken(int(beyond[at+1]), head-61))
			at += 2
		}
	}
	return l, goodTokensByWords(l) && packedByWords(l) == s
}

func wantTokens(t *testing.T, what string, got []impl.Token, ok bool, want []impl.Token) {
	t.Helper()
	if !ok || !slices.Equal(got, want) {
		t.Fatalf("%s: got %v %v, want %v", what, got, ok, want)
	}
}

func wantNoTokens(t *testing.T, what string, got []impl.Token, ok bool) {
	t.Helper()
	if ok || len(got) != 0 {
		t.Fatalf("%s: got %v %v, want the zero answer", what, got, ok)
	}
}

func wantMade(t *testing.T, what string, got string, ok bool, want string) {
	t.Helper()
	if !ok || got != want {
		t.Fatalf("%s: got %q %v, want %q", what, got, ok, want)
	}
}

func wantNoMade(t *testing.T, what string, got string, ok bool) {
	t.Helper()
	if ok || got != "" {
		t.Fatalf("%s: got %q %v, want the zero answer", what, got, ok)
	}
}

func wantLongest(t *testing.T, s string, at int, dist int, long int) {
	t.Helper()
	if gotDist, gotLong, ok := impl.LongestAt(s, at); !ok || gotDist != dist || gotLong != long {
		t.Fatalf("LongestAt of %q, %d: got %d %d %v, want %d %d", s, at, gotDist, gotLong, ok, dist, long)
	}
}

func wantNoLongest(t *testing.T, s string, at int) {
	t.Helper()
	if dist, long, ok := impl.LongestAt(s, at); ok || dist != 0 || long != 0 {
		t.Fatalf("LongestAt of %d bytes, %d: got %d %d %v, want the zero answer", len(s), at, dist, long, ok)
	}
}

// alikeByWords is how many bytes from a place on stand so many ahead too.
func alikeByWords(s string, at int, dist int) int {
	n := 0
	for n < 66 && at+n < len(s) && s[at+n] == s[at+n-dist] {
		n++
	}
	return n
}

// checkLongestAt: what is told stands so many bytes ahead, none nearer is as long, and none is longer.
func checkLongestAt(t *testing.T, s string, at int) {
	t.Helper()
	dist, long := longestByWords(s, at)
	wantLongest(t, s, at, dist, long)
	for other := 1; other <= min(255, at); other++ {
		n := alikeByWords(s, at, other)
		switch {
		case other == dist && n != long, other < dist && n >= long, n > max(long, 2):
			t.Fatalf("LongestAt of %q, %d: %d %d, but %d has %d", s, at, dist, long, other, n)
		}
	}
}

func checkAllLongest(t *testing.T, s string) {
	t.Helper()
	for at := range len(s) + 1 {
		checkLongestAt(t, s, at)
	}
	for _, at := range []int{-2, -1, len(s) + 1, len(s) + 2} {
		wantNoLongest(t, s, at)
	}
}

// checkSqueezed: a text comes back from what it was made short to, which is not longer than it may be.
func checkSqueezed(t *testing.T, s string) {
	t.Helper()
	l, ok := impl.TokensOf(s)
	wantTokens(t, "TokensOf", l, ok, tokensByWords(s))
	checkTokens(t, l)
	told, ok := impl.ExpandTokens(l)
	wantMade(t, "ExpandTokens of TokensOf", told, ok, s)
	packed, ok := impl.Squeeze(s)
	wantMade(t, "Squeeze", packed, ok, packedByWords(l))
	if len(packed) > len(s)+len(s)/64+1 {
		t.Fatalf("Squeeze of %q: %d bytes of %d", s, len(packed), len(s))
	}
	back, ok := impl.Unsqueeze(packed)
	wantMade(t, "Unsqueeze of Squeeze", back, ok, s)
	checkPacked(t, packed)
}

// checkTokens: tokens that are good by the words are, and come back from their bytes; what is not is refused.
func checkTokens(t *testing.T, l []impl.Token) bool {
	t.Helper()
	if !goodTokensByWords(l) {
		wantTokensRefused(t, l)
		return false
	}
	if !impl.GoodTokens(l) {
		t.Fatalf("%v are not good", l)
	}
	told, ok := impl.ExpandTokens(l)
	wantMade(t, "ExpandTokens", told, ok, toldByWords(l))
	packed, ok := impl.PackTokens(l)
	wantMade(t, "PackTokens", packed, ok, packedByWords(l))
	if len(packed) > len(told)+len(told)/64+1 {
		t.Fatalf("PackTokens of %v: %d bytes of %d", l, len(packed), len(told))
	}
	got, ok := impl.UnpackTokens(packed)
	wantTokens(t, "UnpackTokens of PackTokens", got, ok, l)
	back, ok := impl.Unsqueeze(packed)
	wantMade(t, "Unsqueeze of PackTokens", back, ok, told)
	return true
}

func wantTokensRefused(t *testing.T, l []impl.Token) {
	t.Helper()
	if impl.GoodTokens(l) {
		t.Fatalf("%v are good", l)
	}
	told, ok := impl.ExpandTokens(l)
	wantNoMade(t, "ExpandTokens", told, ok)
	packed, ok := impl.PackTokens(l)
	wantNoMade(t, "PackTokens", packed, ok)
}

// checkPacked: what is the bytes of good tokens comes back as these, and all else is refused.
func checkPacked(t *testing.T, s string) bool {
	t.Helper()
	want, good := unpackedByWords(s)
	if !good {
		wantPackedRefused(t, s)
		return false
	}
	l, ok := impl.UnpackTokens(s)
	wantTokens(t, "UnpackTokens", l, ok, want)
	packed, ok := impl.PackTokens(l)
	wantMade(t, "PackTokens of UnpackTokens", packed, ok, s)
	told, ok := impl.Unsqueeze(s)
	wantMade(t, "Unsqueeze", told, ok, toldByWords(want))
	return true
}

func wantPackedRefused(t *testing.T, s string) {
	t.Helper()
	l, ok := impl.UnpackTokens(s)
	wantNoTokens(t, "UnpackTokens", l, ok)
	told, ok := impl.Unsqueeze(s)
	wantNoMade(t, "Unsqueeze", told, ok)
}

// allBytes has all bytes in a row, again and again: what comes again stands one byte too far ahead.
func allBytes(long int) string {
	return string(countedBytes(long))
}

func TestTextsOfFewBytesComeBack(t *testing.T) {
	for long := range 12 {
		for _, row := range rowsOf(long, 'a', 'b') {
			checkSqueezed(t, string(row))
			checkAllLongest(t, string(row))
		}
	}
	for long := range 8 {
		for _, row := range rowsOf(long, 'a', 'b', 'c') {
			checkSqueezed(t, string(row))
			checkAllLongest(t, string(row))
		}
	}
}

func TestTextsInNoOrderComeBack(t *testing.T) {
	s := steps(1600)
	shorter, longer := 0, 0
	for _, kinds := range []int{1, 2, 3, 5, 20, 256} {
		for range 60 {
			text := someText(&s, s.below(601), kinds)
			checkSqueezed(t, text)
			for range 5 {
				checkLongestAt(t, text, s.below(len(text)+1))
			}
			packed, _ := impl.Squeeze(text)
			if len(packed) < len(text) {
				shorter++
			} else {
				longer++
			}
		}
	}
	if shorter < 100 || longer < 60 {
		t.Errorf("%d were shorter, %d were not", shorter, longer)
	}
}

// someWords are texts put together of few others, so that long stretches come again.
func someWords(s *steps, long int) string {
	words := []string{"a", "the ", "block", "of ", allBytes(70), strings.Repeat("ab", 40), strings.Repeat("z", 100), "\x00\xff"}
	text := ""
	for len(text) < long {
		text += words[s.below(len(words))]
		if s.below(5) == 0 {
			text += someText(s, s.below(80), 256)
		}
	}
	return text[:long]
}

func TestTextsOfWordsComeBack(t *testing.T) {
	s := steps(1601)
	for range 150 {
		text := someWords(&s, s.below(601))
		checkSqueezed(t, text)
		for range 10 {
			checkLongestAt(t, text, s.below(len(text)+1))
		}
	}
	for range 4 {
		checkAllLongest(t, someWords(&s, 600))
	}
}

// Of each length: nothing comes again, all is one byte, and what is plain stands between what is not.
func TestTextsOfAllLengthsComeBack(t *testing.T) {
	for long := range 601 {
		all := allBytes(long)
		checkSqueezed(t, all)
		if packed, _ := impl.Squeeze(all); len(packed) != long+(long+63)/64 {
			t.Fatalf("%d bytes of %d where nothing comes again", len(packed), long)
		}
		checkSqueezed(t, strings.Repeat("a", long))
		between := strings.Repeat(allBytes(65)+"abc", 10)
		checkSqueezed(t, between[:long])
	}
}

// The least stretch between bytes that are plain saves as much as these cost.
func TestWhatIsSqueezedIsAsLongAsItMayBe(t *testing.T) {
	for _, ahead := range []int{1, 3, 63, 64, 65, 127, 128} {
		s := allBytes(ahead)
		for number := 0; len(s) < 595; number++ {
			s += s[:min(3, ahead)] + string([]byte{200, byte(number)})
		}
		checkSqueezed(t, s)
	}
	most := 0
	for long := range 601 {
		packed, _ := impl.Squeeze(allBytes(long))
		most = max(most, len(packed)-long)
	}
	if most != 10 {
		t.Errorf("%d bytes longer at most", most)
	}
}

// fewTokens are such as are good in some places, and such as are nowhere.
func fewTokens() []impl.Token {
	return []impl.Token{
		plainToken("a"), plainToken("bcd"), plainToken(allBytes(63)), plainToken(allBytes(64)), backToken(1, 3), backToken(3, 4), backToken(4, 66), backToken(64, 3), backToken(65, 5),
		plainToken(allBytes(65)), backToken(0, 3), backToken(1, 2), backToken(1, 67), {}, {Plain: "a", Dist: 1, Long: 3},
	}
}

func TestTokensOfFewInAllWays(t *testing.T) {
	var c tally
	for many := range 5 {
		for _, l := range rowsOf(many, fewTokens()...) {
			c.count(checkTokens(t, l))
		}
	}
	c.wantBoth(t, 900, 900)
}

// someTokens are good, though perhaps no text is cut into such.
func someTokens(s *steps, many int) []impl.Token {
	var l []impl.Token
	told := 0
	for range many {
		x := backToken(1+s.below(min(max(told, 1), 255)), 3+s.below(64))
		isFull := len(l) == 0 || l[len(l)-1].Plain == "" || len(l[len(l)-1].Plain) == 64
		if told == 0 || isFull && s.below(2) == 0 {
			x = plainToken(someText(s, []int{64, 1 + s.below(64)}[s.below(2)], 256))
		}
		told += len(x.Plain) + x.Long
		if told > 600 {
			return l
		}
		l = append(l, x)
	}
	return l
}

func TestTokensInNoOrderComeBack(t *testing.T) {
	s := steps(1602)
	for range 1000 {
		l := someTokens(&s, s.below(20))
		if !checkTokens(t, l) {
			t.Fatalf("%v are not good", l)
		}
		told, _ := impl.ExpandTokens(l)
		checkSqueezed(t, told)
	}
}

func TestBytesOfFewInAllWays(t *testing.T) {
	var c tally
	for many := range 7 {
		for _, row := range rowsOf[byte](many, 0, 1, 2, 63, 64, 65, 128, 255) {
			c.count(checkPacked(t, string(row)))
		}
	}
	c.wantBoth(t, 500, 500)
}

// What is packed, with one byte of it another, one more or one less: some of it is good, other tokens then.
func TestChangedBytesAreGoodTokensOrRefused(t *testing.T) {
	s := steps(1603)
	var c tally
	for range 25 {
		packed := packedByWords(someTokens(&s, 1+s.below(12)))
		for at := range packed {
			c.count(checkPacked(t, packed[:at]))
			c.count(checkPacked(t, packed[at:]))
			c.count(checkPacked(t, packed[:at]+packed[at+1:]))
			for _, x := range []byte{0, 1, 62, 63, 64, 65, 127, 128, 255, packed[at] + 1, packed[at] - 1} {
				one := string([]byte{x})
				c.count(checkPacked(t, packed[:at]+one+packed[at+1:]))
				c.count(checkPacked(t, packed[:at]+one+packed[at:]))
			}
		}
	}
	c.wantBoth(t, 4000, 4000)
}

func TestBytesInNoOrderAreGoodTokensOrRefused(t *testing.T) {
	s := steps(1604)
	var c tally
	for range 20000 {
		c.count(checkPacked(t, string(someBytes(&s, s.below(8)))))
	}
	c.wantBoth(t, 1000, 1000)
}
