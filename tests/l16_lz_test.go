package tests

import (
	"fmt"
	"math"
	"slices"
	"strings"
	"testing"

	"loop.example/g00261/impl"
)

func TestConstantsOfTexts(t *testing.T) {
	if impl.MaxPlain != 600 || impl.LeastMatch != 3 || impl.MostMatch != 66 || impl.Back != 255 {
		t.Error("limits")
	}
}

// wantGoodTokens asks also what is told, and what is packed, of those that are good and those that are not.
func wantGoodTokens(t *testing.T, what string, l []impl.Token, want bool) {
	t.Helper()
	if got := checkTokens(t, l); got != want {
		t.Errorf("%s: GoodTokens of %v: got %v", what, l, got)
	}
}

func TestTokensWithPlain(t *testing.T) {
	wantGoodTokens(t, "no tokens", nil, true)
	wantGoodTokens(t, "no tokens, no nil", []impl.Token{}, true)
	for _, one := range []string{"a", "\x00", "\xff", "ab", "é"} {
		s := strings.Repeat(one, 100)
		for long := range 70 {
			l := []impl.Token{plainToken(s[:long])}
			wantGoodTokens(t, fmt.Sprint("Plain of ", long), l, long >= 1 && long <= 64)
			wantGoodTokens(t, fmt.Sprint("Plain of ", long, " behind another token"), append(tokensIn("x 1:3"), l...), long >= 1 && long <= 64)
		}
	}
	wantGoodTokens(t, "65 bytes, 33 runes", []impl.Token{plainToken(strings.Repeat("é", 32) + "x")}, false)
	wantGoodTokens(t, "very many bytes", []impl.Token{plainToken(strings.Repeat("a", 1000000))}, false)
}

func TestTokensWithPlainAndMore(t *testing.T) {
	ahead := plainToken(allBytes(64))
	for _, plain := range []string{"a", "abc", allBytes(64)} {
		for _, more := range []impl.Token{{Dist: 1}, {Long: 3}, {Dist: 1, Long: 3}, {Dist: -1}, {Long: -1}, {Dist: 64, Long: 66}, {Dist: math.MinInt}, {Long: math.MaxInt}, {Long: len(plain)}, {Dist: len(plain)}} {
			more.Plain = plain
			wantGoodTokens(t, "Plain and more", []impl.Token{more}, false)
			wantGoodTokens(t, "Plain and more, behind another", []impl.Token{ahead, more}, false)
			more.Plain = ""
			wantGoodTokens(t, "no Plain", []impl.Token{ahead, more}, more.Dist >= 1 && more.Long >= 3)
		}
	}
}

// toldAhead are tokens that tell so many bytes.
func toldAhead(long int) []impl.Token {
	var l []impl.Token
	for part := range slices.Chunk(countedBytes(long), 64) {
		l = append(l, plainToken(string(part)))
	}
	return l
}

func TestTokensOfEachDist(t *testing.T) {
	for _, dist := range []int{-256, -255, -3, -2, -1, 0, 1, 2, 254, 255, 256, 257, 300, 301, 511, 512, math.MaxInt, math.MaxInt - 1, math.MinInt, math.MinInt + 1} {
		for _, long := range []int{3, 66} {
			l := append(toldAhead(300), backToken(dist, long))
			wantGoodTokens(t, fmt.Sprint("Dist ", dist), l, dist >= 1 && dist <= 255)
			wantGoodTokens(t, fmt.Sprint("Dist ", dist, " and one more"), append(l, backToken(1, 3)), dist >= 1 && dist <= 255)
		}
	}
}

func TestTokensOfEachLong(t *testing.T) {
	for _, long := range []int{-67, -66, -3, -2, -1, 0, 1, 2, 3, 4, 65, 66, 67, 68, 255, 256, 256 + 3, math.MaxInt, math.MaxInt - 1, math.MinInt, math.MinInt + 1, math.MinInt + 66} {
		for _, dist := range []int{1, 2, 255} {
			l := append(toldAhead(255), backToken(dist, long))
			wantGoodTokens(t, fmt.Sprint("Long ", long), l, long >= 3 && long <= 66)
			wantGoodTokens(t, fmt.Sprint("Long ", long, " and one more"), append(l, backToken(1, 3)), long >= 3 && long <= 66)
		}
	}
}

func TestTokensOfAsMuchAsIsToldAhead(t *testing.T) {
	for _, ahead := range []int{0, 1, 2, 3, 63, 64, 65, 128, 253, 254, 255, 256, 300} {
		for dist := ahead - 2; dist <= ahead+2; dist++ {
			l := append(toldAhead(ahead), backToken(dist, 3))
			wantGoodTokens(t, fmt.Sprint(ahead, " bytes, and Dist ", dist), l, dist >= 1 && dist <= min(ahead, 255))
		}
	}
	for text, want := range map[string]bool{
		"1:3": false, "1:3 a": false, "a 1:3": true, "a 2:3": false, "a 1:3 4:3": true, "a 1:3 5:3": false, "a 1:3 4:3 7:3": true, "a 1:3 4:3 8:3": false, "a 2:3 bc": false, "ab 2:66 68:3": true, "ab 2:66 69:3": false, "ab 2:3 c 6:3": true, "ab 2:3 c 7:3": false,
	} {
		wantGoodTokens(t, text, tokensIn(text), want)
	}
}

func TestTokensThatTellAsMuchAsTheyMay(t *testing.T) {
	for long := 590; long <= 610; long++ {
		wantGoodTokens(t, fmt.Sprint("Plain of ", long), toldAhead(long), long <= 600)
		for last := 3; last <= 66; last++ {
			l := append(toldAhead(long-last), backToken(7, last))
			wantGoodTokens(t, fmt.Sprint(long, " bytes, ", last, " of them once more"), l, long <= 600)
			wantGoodTokens(t, "and no token more", append(l, impl.Token{}), false)
			wantGoodTokens(t, "and a byte more", append(l, plainToken("x")), long <= 599)
		}
	}
	repeated := append(tokensIn("abcdef"), slices.Repeat(tokensIn("1:66"), 9)...)
	wantGoodTokens(t, "600 bytes", repeated, true)
	wantGoodTokens(t, "603 bytes", append(repeated, tokensIn("1:3")...), false)
	wantGoodTokens(t, "606 bytes, the last ones ahead", append(tokensIn("abcdef 1:3 1:3"), repeated[1:]...), false)
	wantGoodTokens(t, "very many tokens", append(tokensIn("a"), slices.Repeat(tokensIn("1:66"), 100000)...), false)
	wantGoodTokens(t, "very many tokens of 64", slices.Repeat([]impl.Token{plainToken(allBytes(64))}, 100000), false)
}

func TestTokensWithPlainSideBySide(t *testing.T) {
	for long := 1; long <= 64; long++ {
		for _, next := range []string{"a", "ab", allBytes(63), allBytes(64)} {
			pair := []impl.Token{plainToken(allBytes(long)), plainToken(next)}
			wantGoodTokens(t, fmt.Sprint("Plain of ", long, " and of ", len(next)), pair, long == 64)
			wantGoodTokens(t, "behind another", append(tokensIn("xyz 1:3"), pair...), long == 64)
			wantGoodTokens(t, "ahead of another", append(slices.Clone(pair), backToken(1, 3)), long == 64)
			between := []impl.Token{pair[0], backToken(1, 3), pair[1]}
			wantGoodTokens(t, "with another between", between, true)
		}
	}
	full, short := plainToken(allBytes(64)), plainToken("a")
	wantGoodTokens(t, "three, the second of one byte", []impl.Token{full, short, full}, false)
	wantGoodTokens(t, "three, the last of one byte", []impl.Token{full, full, short}, true)
	wantGoodTokens(t, "three of 64", []impl.Token{full, full, full}, true)
}

// wantToldTokens: the text that tokens tell.
func wantToldTokens(t *testing.T, text string, want string) {
	t.Helper()
	l := tokensIn(text)
	got, ok := impl.ExpandTokens(l)
	wantMade(t, "ExpandTokens of "+text, got, ok, want)
	wantGoodTokens(t, text, l, true)
}

func TestExpandTokensByHand(t *testing.T) {
	for text, want := range map[string]string{
		"": "", "a": "a", "abc": "abc", "abc 3:3": "abcabc", "abc 3:6 d": "abcabcabcd", "abcd 4:3": "abcdabc", "abcd 3:3 x": "abcdbcdx", "abcdef 5:4": "abcdefbcde",
		// These tell bytes that they have told themselves.
		"a 1:3": "aaaa", "a 1:5 b": "aaaaaab", "ab 1:3": "abbbb", "ab 2:3": "ababa", "ab 2:4": "ababab", "ab 2:5 c": "abababac", "abc 2:5": "abcbcbcb", "abc 3:4": "abcabca", "abc 3:5": "abcabcab", "abc 3:7": "abcabcabca", "abcde 4:9": "abcdebcdebcdeb",
		"a 1:3 b 2:4": "aaaababab", "ab 2:3 3:3 c 6:4": "ababaabacbaab", "xy 2:66": strings.Repeat("xy", 34), "x 1:66 1:66 133:3": strings.Repeat("x", 136),
	} {
		wantToldTokens(t, text, want)
	}
	wantToldTokens(t, "a 1:66", strings.Repeat("a", 67))
	wantToldTokens(t, "abc 3:66 yz 5:3", strings.Repeat("abc", 23)+"yzabc")
}

// wantStretch also asks the words.
func wantStretch(t *testing.T, s string, at int, dist int, long int) {
	t.Helper()
	wantLongest(t, s, at, dist, long)
	checkLongestAt(t, s, at)
}

func TestLongestAtOfEachPlace(t *testing.T) {
	wantStretch(t, "", 0, 0, 0)
	for _, at := range []int{-1, -2, 1, 2, 600, math.MaxInt, math.MinInt} {
		wantNoLongest(t, "", at)
	}
	for _, s := range []string{"a", "abc", "aaaaa", "abcabcabcd", strings.Repeat("a", 600), allBytes(600)} {
		wantStretch(t, s, 0, 0, 0)
		wantStretch(t, s, len(s), 0, 0)
		for _, at := range []int{-1, -2, -255, -600, len(s) + 1, len(s) + 2, len(s) + 600, math.MaxInt, math.MinInt, math.MinInt + 1} {
			wantNoLongest(t, s, at)
		}
	}
	for long := 598; long <= 603; long++ {
		for _, at := range []int{-1, 0, 1, 100, long - 3, long - 1, long, long + 1} {
			s := strings.Repeat("a", long)
			if long > 600 || at < 0 || at > long {
				wantNoLongest(t, s, at)
			} else {
				checkLongestAt(t, s, at)
			}
		}
	}
	wantNoLongest(t, strings.Repeat("a", 1000000), 1)
}

func TestLongestAtOfEachLong(t *testing.T) {
	for s, want := range map[string][3]int{
		"ab|ab": {2, 0, 0}, "abc|ab": {3, 0, 0}, "abxab|y": {5, 0, 0}, "abx|aby": {3, 0, 0}, "abcx|abcy": {4, 4, 3}, "abcx|abc": {4, 4, 3}, "abc|abc": {3, 3, 3}, "abcd|abcd": {4, 4, 4}, "abcdx|abcdy": {5, 5, 4}, "abcd|abcx": {4, 4, 3}, "abcd|abx": {4, 0, 0}, "a|aa": {1, 0, 0}, "a|aaa": {1, 1, 3}, "a|aab": {1, 0, 0}, "a|aaab": {1, 1, 3},
		"aaaa|a": {4, 0, 0}, "aaaa|aa": {4, 0, 0}, "aaaa|aaa": {4, 1, 3}, "ab|abab": {2, 2, 4}, "ab|aba": {2, 2, 3}, "a|babab": {1, 0, 0}, "aba|bab": {3, 2, 3}, "abc|abcabcd": {3, 3, 6}, "abca|bcabcd": {4, 3, 5}, "abcab|cabcd": {5, 3, 4}, "abcabc|abcd": {6, 3, 3}, "abcabca|bcd": {7, 0, 0}, "\x00|\x00\x00\x00": {1, 1, 3}, "éé|éé": {4, 2, 4},
	} {
		ahead, behind, _ := strings.Cut(s, "|")
		wantStretch(t, ahead+behind, len(ahead), want[1], want[2])
	}
}

// wantAgain: bytes that come again behind others are told, as far as they may be.
func wantAgain(t *testing.T, many int, between string, behind string) {
	t.Helper()
	stretch := allBytes(many)
	at := len(stretch + between)
	if many < 3 {
		wantStretch(t, stretch+between+stretch+behind, at, 0, 0)
	} else {
		wantStretch(t, stretch+between+stretch+behind, at, at, min(many, 66))
	}
}

func TestLongestAtOfAsManyBytesAsItMayTell(t *testing.T) {
	for many := range 90 {
		for _, between := range []string{"\xf0", "\xf0\xf1\xf2", allBytes(256)[100:200]} {
			for _, behind := range []string{"", "\xf3", "\xf3\xf4\xf5\xf6", "\xf3\x00\x01\x02"} {
				wantAgain(t, many, between, behind)
			}
		}
		for at := 1; at <= 5; at++ {
			told := min(many, 66)
			if many < 3 {
				wantStretch(t, strings.Repeat("a", at+many), at, 0, 0)
			} else {
				wantStretch(t, strings.Repeat("a", at+many), at, 1, told)
				wantStretch(t, strings.Repeat("a", at+many)+"b", at, 1, told)
			}
		}
	}
}

func TestLongestAtOfEachDist(t *testing.T) {
	for dist := 3; dist <= 300; dist++ {
		for _, ahead := range []string{"", "x", strings.Repeat("y", 40)} {
			s := ahead + "abc" + strings.Repeat("-", dist-3) + "abc"
			if dist <= 255 {
				wantStretch(t, s, len(ahead)+dist, dist, 3)
			} else {
				wantStretch(t, s, len(ahead)+dist, 0, 0)
			}
			checkSqueezed(t, s)
		}
	}
	// What stands too far ahead does not count, though it is longer.
	for _, between := range []int{240, 247, 248, 249, 250} {
		s := "abcdef" + strings.Repeat("-", between) + "abc+abcdef"
		at := 6 + between + 4
		if at <= 255 {
			wantStretch(t, s, at, at, 6)
		} else {
			wantStretch(t, s, at, 4, 3)
		}
	}
	for _, period := range []int{254, 255, 256, 257} {
		s := strings.Repeat(allBytes(period), 2)
		if period <= 255 {
			wantStretch(t, s, period, period, 66)
		} else {
			wantStretch(t, s, period, 0, 0)
		}
	}
}

// Of several that are as long the least Dist counts; of others the longest.
func TestLongestAtOfSeveral(t *testing.T) {
	for s, want := range map[string][2]int{
		"abcxabcy|abc": {4, 3}, "abcxabcyabcz|abc": {4, 3}, "abcxabcy|abcz": {4, 3}, "abcxabcy|abcx": {8, 4}, "abcxabcy|abcy": {4, 4}, "abcdxabcy|abcd": {9, 4}, "abcdxabcdy|abcd": {5, 4}, "abcyabcdx|abc": {5, 3}, "abcyabcdx|abcd": {5, 4}, "abcdabc|abcd": {7, 4}, "abcabcd|abcd": {4, 4}, "abcdabcabc|abcd": {10, 4}, "abcdabcabc|abc": {3, 3}, "abcdabcabc|abca": {3, 4}, "abcabdabc|abca": {3, 4}, "abcadabcb|abca": {9, 4},
		"aab|aab": {3, 3}, "aabaab|aab": {3, 3}, "aaab|aaaa": {4, 3}, "aaaab|aaaa": {5, 4}, "baaaab|aaaa": {5, 4}, "aaaa|aaaab": {1, 4}, "aaaabaaaa|aaaab": {9, 5}, "aaaabaaaa|aaaaa": {1, 5}, "aaaabaaaa|baaaa": {5, 5}, "abababab|abab": {2, 4}, "abxab|abx": {5, 3}, "abxab|abab": {2, 4},
	} {
		ahead, behind, _ := strings.Cut(s, "|")
		wantStretch(t, ahead+behind, len(ahead), want[0], want[1])
	}
	// Longer than may be told they are as long.
	for long := 60; long <= 70; long++ {
		whole := allBytes(70)
		s := whole + "\xf0" + whole[:long] + "\xf1" + whole
		if long >= 66 {
			wantStretch(t, s, long+72, long+1, 66)
		} else {
			wantStretch(t, s, long+72, long+72, 66)
		}
	}
}

// wantCutInto: a text's tokens.
func wantCutInto(t *testing.T, s string, want []impl.Token) {
	t.Helper()
	got, ok := impl.TokensOf(s)
	wantTokens(t, fmt.Sprintf("TokensOf of %q", s), got, ok, want)
	checkSqueezed(t, s)
}

func TestTokensOfByHand(t *testing.T) {
	for s, want := range map[string]string{
		"": "", "a": "a", "ab": "ab", "aa": "aa", "aaa": "aaa", "aaaa": "a 1:3", "aaaaa": "a 1:4", "aaaab": "a 1:3 b", "aaabaaab": "aaab 4:4", "abab": "abab", "ababa": "ab 2:3", "ababab": "ab 2:4", "abcabc": "abc 3:3", "abcabcabcd": "abc 3:6 d", "abcdabc": "abcd 4:3", "abcdabcd": "abcd 4:4", "abcxabcd": "abcx 4:3 d", "abcab": "abcab",
		// From the front: a stretch that begins a byte later would be longer.
		"abcxbcdexabcde": "abcxbcdex 9:3 de", "abc.bcd.abcd": "abc.bcd. 8:3 d", "abc.bcdef.abcdef": "abc.bcdef. 10:3 7:3",
		"aaaabaaaab": "a 1:3 b 5:5", "aaaabbbb": "a 1:3 b 1:3", "abcabcxyzxyz": "abc 3:3 xyz 3:3", "abcabcxabcabcy": "abc 3:3 x 7:6 y", "abcabcaaa": "abc 3:4 aa", "abcabcaaaa": "abc 3:4 1:3", "abcabcaaaaa": "abc 3:4 1:4",
	} {
		wantCutInto(t, s, tokensIn(want))
	}
}

func TestTokensOfManyPlainBytes(t *testing.T) {
	for _, long := range []int{1, 2, 63, 64, 65, 127, 128, 129, 192, 193, 256, 599, 600} {
		wantCutInto(t, allBytes(long), toldAhead(long))
		// Behind as much that is plain comes what is not, and behind that what is plain again.
		if long >= 3 && long <= 250 {
			s := allBytes(long)
			again := s[long-3:]
			wantCutInto(t, s+again, append(toldAhead(long), backToken(3, 3)))
			wantCutInto(t, s+again+"\xff", append(toldAhead(long), backToken(3, 3), plainToken("\xff")))
			wantCutInto(t, s+again[:2], tokensByWords(s+again[:2]))
		}
	}
	first, second := allBytes(64), allBytes(128)[64:]
	wantCutInto(t, first+second[:1], []impl.Token{plainToken(first), plainToken(second[:1])})
	wantCutInto(t, first+second, []impl.Token{plainToken(first), plainToken(second)})
	wantCutInto(t, first+first, []impl.Token{plainToken(first), backToken(64, 64)})
	wantCutInto(t, first+first[:2]+second, []impl.Token{plainToken(first), plainToken(first[:2] + second[:62]), plainToken(second[62:])})
}

func TestTokensOfAsManyBytesAsThereMayBe(t *testing.T) {
	nine := append(tokensIn("a"), slices.Repeat(tokensIn("1:66"), 9)...)
	for long, last := range map[int]string{595: "", 596: "a", 597: "aa", 598: "1:3", 599: "1:4", 600: "1:5"} {
		wantCutInto(t, strings.Repeat("a", long), append(slices.Clone(nine), tokensIn(last)...))
	}
	for _, one := range []string{"a", "ab", "\x00", allBytes(256)} {
		s := strings.Repeat(one, 1000)
		for _, long := range []int{601, 602, 603, 610, 611, 1000} {
			got, ok := impl.TokensOf(s[:long])
			wantNoTokens(t, fmt.Sprint("TokensOf of ", long), got, ok)
			packed, ok := impl.Squeeze(s[:long])
			wantNoMade(t, fmt.Sprint("Squeeze of ", long), packed, ok)
		}
		for _, long := range []int{598, 599, 600} {
			checkSqueezed(t, s[:long])
		}
	}
	got, ok := impl.TokensOf(strings.Repeat("a", 1000000))
	wantNoTokens(t, "TokensOf of very many", got, ok)
	packed, ok := impl.Squeeze(strings.Repeat("a", 1000000))
	wantNoMade(t, "Squeeze of very many", packed, ok)
}

// packedRows are tokens and their bytes.
func packedRows() map[string]string {
	return map[string]string{
		"": "", "a": "\x00a", "abc": "\x02abc", "a 1:3": "\x00a\x40\x01", "a 1:4": "\x00a\x41\x01", "a 1:66": "\x00a\x7f\x01", "a 1:65 b": "\x00a\x7e\x01\x00b", "abc 3:6 d": "\x02abc\x43\x03\x00d", "abc 2:3 3:3": "\x02abc\x40\x02\x40\x03", "a 1:66 67:66 66:3 b": "\x00a\x7f\x01\x7f\x43\x40\x42\x00b", "a 1:66 1:66 1:66 1:66 255:10": "\x00a\x7f\x01\x7f\x01\x7f\x01\x7f\x01\x47\xff",
	}
}

func TestPackTokensByHand(t *testing.T) {
	for text, want := range packedRows() {
		l := tokensIn(text)
		got, ok := impl.PackTokens(l)
		wantMade(t, "PackTokens of "+text, got, ok, want)
		back, ok := impl.UnpackTokens(want)
		wantTokens(t, "UnpackTokens of "+text, back, ok, l)
		wantGoodTokens(t, text, l, true)
	}
	for long := 1; long <= 64; long++ {
		s := allBytes(long)
		got, ok := impl.PackTokens([]impl.Token{plainToken(s)})
		wantMade(t, "PackTokens of Plain", got, ok, string([]byte{byte(long - 1)})+s)
	}
	full := allBytes(64)
	got, ok := impl.PackTokens([]impl.Token{plainToken(full), plainToken("?"), backToken(64, 3), plainToken(full), plainToken(full)})
	wantMade(t, "PackTokens of full ones", got, ok, "?"+full+"\x00?\x40\x40?"+full+"?"+full)
	for _, text := range []string{"1:3", "a b", "a 2:3", "a 1:2", "a 1:67", "a 0:3", "a 256:3", "a 1:3 b c", "a -1:3", "a 1:-3", "a 1:3 0:0", "0:0", "a 1:0", "a 1:259"} {
		wantGoodTokens(t, text, tokensIn(text), false)
	}
}

func wantPackedAre(t *testing.T, s string, want string) {
	t.Helper()
	got, ok := impl.UnpackTokens(s)
	wantTokens(t, fmt.Sprintf("UnpackTokens of %q", s), got, ok, tokensIn(want))
	checkPacked(t, s)
}

func TestUnpackTokensByHand(t *testing.T) {
	wantPackedAre(t, "", "")
	wantPackedAre(t, "\x00a", "a")
	wantPackedAre(t, "\x01ab\x40\x02", "ab 2:3")
	wantPackedAre(t, "\x01ab\x40\x01\x41\x05", "ab 1:3 5:4")
	// Not as TokensOf would have cut the text.
	wantPackedAre(t, "\x05aaaaaa", "aaaaaa")
	wantPackedAre(t, "\x01aa\x40\x02", "aa 2:3")
	wantPackedAre(t, "\x00a\x40\x01\x40\x04", "a 1:3 4:3")
	for _, s := range []string{
		"\x00", "\x01", "\x01a", "\x02ab", "?", "@", "\x7f", "\x80", "\xff", "a", "ab", "abc", "\x00a\x00", "\x00a\x01b", "\x00a@", "\x00a\x7f", "\x00a\xff", "\x00ab", "\x00a@\x01b",
		"\x00a@\x00", "\x00a@\x02", "\x00a@\xff", "\x00a\x7f\x00", "\x00a\x7f\x02", "@\x01", "@\x00", "\x7f\x01", "\x00a@\x01@\x05", "\x00a@\x01@\x00", "\x01ab@\x03", "\x00a@\x05\x00b",
		"\x00a\x80\x01", "\x00a\x81\x01", "\x00a\xc0\x01", "\x00a\xff\x01", "\xff\x01", "\xff\xff", "\x00a\x80\x00", "\x00a\x00b", "\x01ab\x00c", "\x00a\x01bc@\x01", "\x00a@\x01\x00b\x00c", "\x00a\x00b\x00c",
	} {
		wantPackedRefused(t, s)
		checkPacked(t, s)
	}
}

func TestUnpackTokensOfEachHead(t *testing.T) {
	for head := range 256 {
		one := string([]byte{byte(head)})
		behind := allBytes(80)
		for have := range 70 {
			good := head < 64 && have == head+1
			if checkPacked(t, one+behind[:have]) != good {
				t.Errorf("the head %d and %d bytes: told %v", head, have, !good)
			}
		}
		for _, dist := range []int{0, 1, 2, 3, 4, 255} {
			is := head >= 64 && head < 128 && dist >= 1 && dist <= 2
			if got := checkPacked(t, "\x01ab"+one+string([]byte{byte(dist)})); got != is {
				t.Errorf("the head %d and the Dist %d: told %v", head, dist, got)
			}
		}
	}
	// A Plain of 64 may stand ahead of another one, one of 63 may not.
	wantPackedGood(t, "?"+allBytes(64)+"\x00a", true)
	wantPackedGood(t, ">"+allBytes(63)+"\x00a", false)
	wantPackedGood(t, "?"+allBytes(64)+"?"+allBytes(64), true)
	wantPackedGood(t, ">"+allBytes(63)+"?"+allBytes(64), false)
	wantPackedGood(t, ">"+allBytes(63)+"@?"+"\x00a", true)
	wantPackedGood(t, ">"+allBytes(63)+"@@", false)
}

func wantPackedGood(t *testing.T, s string, want bool) {
	t.Helper()
	if got := checkPacked(t, s); got != want {
		t.Errorf("UnpackTokens of %q: told %v", s, got)
	}
}

func TestUnpackTokensOfAsManyBytesAsThereMayBe(t *testing.T) {
	for long := 590; long <= 620; long++ {
		packed := packedByWords(toldAhead(long))
		wantPackedGood(t, packed, long <= 600)
	}
	most := packedByWords(toldAhead(600))
	if len(most) != 610 {
		t.Fatalf("%d bytes", len(most))
	}
	for _, more := range []string{"a", "\x00", "\x00a", "@\x01", "@", strings.Repeat("@\x01", 1000), strings.Repeat("\x00", 100000), most} {
		wantPackedRefused(t, most+more)
		wantPackedRefused(t, more+most)
	}
	wantPackedRefused(t, most[:609])
	wantPackedRefused(t, most[1:])
	long := "\x00a" + strings.Repeat("\x7f\x01", 9)
	wantPackedGood(t, long, true)
	wantPackedGood(t, long+"A\x01", true)
	wantPackedGood(t, long+"B\x01", true)
	wantPackedGood(t, long+"C\x01", false)
	wantPackedGood(t, long+"B\x01\x00b", false)
	wantPackedGood(t, long+"A\x01\x00b", true)
	wantPackedGood(t, long+"\x7f\x01", false)
	wantPackedRefused(t, strings.Repeat("\x7f\x01", 1000000))
}

func TestSqueezeByHand(t *testing.T) {
	for s, want := range map[string]string{
		"": "", "a": "\x00a", "abc": "\x02abc", "aaaa": "\x00a@\x01", "abcabcabcd": "\x02abcC\x03\x00d", strings.Repeat("a", 67): "\x00a\x7f\x01", strings.Repeat("a", 68): "\x00a\x7f\x01\x00a", strings.Repeat("ab", 40): "\x01ab\x7f\x02I\x02", allBytes(64): "?" + allBytes(64), allBytes(65): "?" + allBytes(64) + "\x00@",
		"abc" + allBytes(32) + "abc": "\x22abc" + allBytes(32) + "@#", "the block, the block": "\x0athe block, F\x0b",
	} {
		got, ok := impl.Squeeze(s)
		wantMade(t, fmt.Sprintf("Squeeze of %q", s), got, ok, want)
		back, ok := impl.Unsqueeze(want)
		wantMade(t, fmt.Sprintf("Unsqueeze of %q", want), back, ok, s)
		checkSqueezed(t, s)
	}
	for packed, want := range map[string]string{
		"\x05aaaaaa": "aaaaaa", "\x01aa@\x02": "aaaaa", "\x01ab@\x01": "abbbb", "\x02abc@\x02\x00dA\x04": "abcbcbdbcbd",
	} {
		back, ok := impl.Unsqueeze(packed)
		wantMade(t, fmt.Sprintf("Unsqueeze of %q", packed), back, ok, want)
		checkPacked(t, packed)
	}
}
