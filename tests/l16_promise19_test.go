package tests

import (
	"fmt"
	"math"
	"slices"
	"strings"
	"testing"

	"loop.example/g00261/impl"
)

// goodTokenTexts are tokens that are good, each in its own way.
func goodTokenTexts() []string {
	return []string{
		"", "a", "abc", "a 1:3", "a 1:66", "ab 2:66 68:66 1:3", "abc 3:6 d", "abc 3:3 3:3 3:3", "abc 2:5 de 1:3 f 7:7", "a 1:3 b 1:3 c 1:3 d", "abcdefgh 8:8 16:16 xyz 3:4 y",
		strings.Repeat("x", 64) + " y", strings.Repeat("x", 64) + " " + strings.Repeat("y", 64) + " z 129:3", strings.Repeat("x", 63) + " 63:3", "a" + strings.Repeat(" 1:66", 9) + " 1:5",
	}
}

func badTokens() [][]impl.Token {
	var l [][]impl.Token
	for _, text := range []string{
		"1:3", "a b", "ab c 1:3", "a 1:3 b c", "a 1:2", "a 1:67", "a 0:3", "a 0:0", "0:0", "a 2:3", "a 1:3 5:3", "a -1:3", "a 1:-3", "a -1:-3", strings.Repeat("x", 63) + " y", strings.Repeat("x", 65), strings.Repeat("x", 256),
		"a" + strings.Repeat(" 1:66", 9) + " 1:6", "a" + strings.Repeat(" 1:66", 9) + " 1:5 b", "a" + strings.Repeat(" 1:66", 10), "a" + strings.Repeat(" 1:66", 100000), "a 1:3" + strings.Repeat(" 0:3", 1000),
	} {
		l = append(l, tokensIn(text))
	}
	for _, x := range []impl.Token{{}, {Plain: "b", Dist: 1, Long: 3}, {Plain: "b", Dist: 1}, {Plain: "b", Long: 3}, {Dist: 1}, {Long: 3}, {Plain: strings.Repeat("b", 1000000)}} {
		l = append(l, []impl.Token{x}, append(tokensIn("a 1:3"), x), append([]impl.Token{x}, tokensIn("a 1:3")...))
	}
	for _, n := range oddNumbers() {
		if n < 1 || n > 4 {
			l = append(l, append(tokensIn("a 1:3"), backToken(n, 3)))
		}
		if n < 3 || n > 66 {
			l = append(l, append(tokensIn("a 1:3"), backToken(1, n)))
		}
		l = append(l, append(tokensIn("a 1:3"), backToken(n, n+1)))
		if n != 0 {
			l = append(l, append(tokensIn("a 1:3"), impl.Token{Plain: "b", Dist: n}), append(tokensIn("a 1:3"), impl.Token{Plain: "b", Long: n}))
		}
	}
	return slices.DeleteFunc(l, goodTokensByWords)
}

func TestBadTokensAreRefused(t *testing.T) {
	bad := badTokens()
	if len(bad) < 700 {
		t.Errorf("%d are bad", len(bad))
	}
	for _, l := range bad {
		held := slices.Clone(l)
		wantTokensRefused(t, l)
		if !slices.Equal(l, held) {
			t.Fatalf("a refusal wrote into %v", held)
		}
	}
}

func TestOddPlacesInTexts(t *testing.T) {
	for _, s := range []string{"", "a", "aaaaa", "abcabcabcd", strings.Repeat("ab", 300), strings.Repeat("a", 601)} {
		for _, n := range oddNumbers() {
			if n < 0 || n > len(s) || len(s) > 600 {
				wantNoLongest(t, s, n)
			} else {
				checkLongestAt(t, s, n)
			}
		}
	}
}

func TestOddTextsAreSqueezed(t *testing.T) {
	for _, s := range []string{"", "\x00", "\xff", "\x00\x00\x00\x00", "\xff\xfe\xfd\xff\xfe\xfd", "é", "日本語日本語", "a\nb\tc", " ", "    ", strings.Repeat("\x00", 600), strings.Repeat("\xff", 600), strings.Repeat("é", 300), "@\x01@\x01@\x01", "\x00a@\x01", "?" + allBytes(64)} {
		checkSqueezed(t, s)
		checkAllLongest(t, s)
		checkPacked(t, s)
	}
	for _, s := range []string{strings.Repeat("é", 300) + "x", strings.Repeat("\x00", 601), allBytes(601), strings.Repeat("a", 1000000)} {
		l, ok := impl.TokensOf(s)
		wantNoTokens(t, "TokensOf", l, ok)
		packed, ok := impl.Squeeze(s)
		wantNoMade(t, "Squeeze", packed, ok)
		wantNoLongest(t, s, 0)
		wantNoLongest(t, s, 300)
		wantNoLongest(t, s, len(s))
	}
}

// A text that is squeezed may be squeezed once more, and comes back in two steps.
func TestWhatIsSqueezedMayBeSqueezed(t *testing.T) {
	s := steps(1690)
	for range 100 {
		text := someWords(&s, s.below(590))
		packed, _ := impl.Squeeze(text)
		checkSqueezed(t, packed)
	}
}

// changedTokens differ in one number, one text or one token.
func changedTokens(l []impl.Token) [][]impl.Token {
	var changed [][]impl.Token
	change := func(by func(x *impl.Token), i int) {
		other := slices.Clone(l)
		by(&other[i])
		changed = append(changed, other)
	}
	for i := range l {
		for _, n := range []int{-1, 1, 63, math.MaxInt, math.MinInt} {
			change(func(x *impl.Token) { x.Dist += n }, i)
			change(func(x *impl.Token) { x.Long += n }, i)
		}
		for _, plain := range []string{"", "b", strings.Repeat("b", 64), strings.Repeat("b", 65)} {
			change(func(x *impl.Token) { x.Plain = plain }, i)
			change(func(x *impl.Token) { *x = plainToken(plain) }, i)
		}
		change(func(x *impl.Token) { *x = backToken(1, 3) }, i)
		change(func(x *impl.Token) { x.Dist, x.Long = x.Long, x.Dist }, i)
		changed = append(changed, slices.Delete(slices.Clone(l), i, i+1), slices.Insert(slices.Clone(l), i, l[i]))
	}
	for i := range len(l) + 1 {
		for _, x := range []impl.Token{{}, plainToken("b"), plainToken(allBytes(64)), backToken(1, 3), backToken(5, 66)} {
			changed = append(changed, slices.Insert(slices.Clone(l), i, x))
		}
	}
	return changed
}

func TestGoodTokensAreWhatTheWordsSay(t *testing.T) {
	var c tally
	for _, text := range goodTokenTexts() {
		wantGoodTokens(t, text, tokensIn(text), true)
		for _, one := range changedTokens(tokensIn(text)) {
			c.count(checkTokens(t, one))
		}
	}
	for _, text := range []string{"", "a", "a 1:3", "abc 3:6 d", strings.Repeat("x", 64) + " y 1:3"} {
		for _, one := range changedTokens(tokensIn(text)) {
			for _, two := range changedTokens(one) {
				c.count(checkTokens(t, two))
			}
		}
	}
	c.wantBoth(t, 1000, 4000)
}

func spoiltToken() impl.Token {
	return impl.Token{Plain: "spoilt", Dist: -9, Long: -9}
}

// roomyTokens have room behind them, with what may stand there and what may not.
func roomyTokens(text string) []impl.Token {
	return withRoom(tokensIn(text), backToken(1, 5), plainToken("behind"))
}

func TestTokensAreNotWrittenInto(t *testing.T) {
	for _, text := range goodTokenTexts() {
		l := roomyTokens(text)
		for range 2 {
			checkTokens(t, l)
			wantAsFresh(t, text, [][]impl.Token{l}, [][]impl.Token{roomyTokens(text)})
		}
	}
	for _, held := range badTokens()[:100] {
		l := withRoom(held, backToken(1, 5), plainToken("behind"))
		wantTokensRefused(t, l)
		wantAsFresh(t, "refused", [][]impl.Token{l}, [][]impl.Token{withRoom(held, backToken(1, 5), plainToken("behind"))})
	}
}

// What was answered stays as it was, whatever comes of the tokens it was made of.
func TestTextsOfTokensAreNewMemory(t *testing.T) {
	for _, text := range goodTokenTexts() {
		l := roomyTokens(text)
		told, _ := impl.ExpandTokens(l)
		packed, _ := impl.PackTokens(l)
		spoil(l, spoiltToken())
		wantMade(t, "ExpandTokens", told, true, toldByWords(tokensIn(text)))
		wantMade(t, "PackTokens", packed, true, packedByWords(tokensIn(text)))
	}
}

func TestTokensAnsweredAreNewMemory(t *testing.T) {
	for _, text := range goodTokenTexts() {
		told, packed := toldByWords(tokensIn(text)), packedByWords(tokensIn(text))
		for range 3 {
			one, _ := impl.TokensOf(told)
			two, _ := impl.TokensOf(told)
			three, _ := impl.UnpackTokens(packed)
			four, _ := impl.UnpackTokens(packed)
			wantListsApart(t, text, nil, nil, [][]impl.Token{one, three}, spoiltToken())
			wantTokens(t, "TokensOf, another answer spoilt", two, true, tokensByWords(told))
			wantTokens(t, "UnpackTokens, another answer spoilt", four, true, tokensIn(text))
			checkSqueezed(t, told)
			checkPacked(t, packed)
		}
	}
}

// What is not good by its length alone is not made good by what lies behind it, nor the other way.
func TestListsOfTokensEndAtTheirLength(t *testing.T) {
	for text, want := range map[string]bool{"": true, "a": true, "a 1:3": true, "1:3": false, "a 2:3": false, "a b": false, strings.Repeat("x", 65): false} {
		for _, behind := range []string{"b", "1:3", "0:0", "9:9", "a b c", "a" + strings.Repeat(" 1:66", 10)} {
			l := withRoom(tokensIn(text), tokensIn(behind)...)
			wantGoodTokens(t, text+", and behind them "+behind, l, want)
		}
	}
	many := append(tokensIn("a"), slices.Repeat(tokensIn("1:66"), 100)...)
	for long := range many {
		wantGoodTokens(t, fmt.Sprint(long, " of many tokens"), many[:long], long <= 10)
	}
}

// A text that is a part of a greater one ends where it ends.
func TestTextsEndAtTheirLength(t *testing.T) {
	whole := strings.Repeat("abcab", 200)
	for _, long := range []int{0, 1, 3, 5, 7, 8, 11, 599, 600} {
		for _, from := range []int{0, 1, 200} {
			s := whole[from : from+long]
			checkSqueezed(t, s)
			checkSqueezed(t, strings.Clone(s))
			checkLongestAt(t, s, long/2)
		}
	}
	packed := "\x02abc@\x03\x00d"
	for from := range packed {
		for end := from; end <= len(packed); end++ {
			checkPacked(t, packed[from:end])
		}
	}
}

func TestTextsAreSqueezedTheSameEachTime(t *testing.T) {
	s := steps(1691)
	text := someWords(&s, 600)
	l, _ := impl.TokensOf(text)
	packed, _ := impl.Squeeze(text)
	for range 40 {
		again, ok := impl.TokensOf(text)
		wantTokens(t, "TokensOf", again, ok, l)
		got, ok := impl.Squeeze(text)
		wantMade(t, "Squeeze", got, ok, packed)
		back, ok := impl.Unsqueeze(packed)
		wantMade(t, "Unsqueeze", back, ok, text)
		checkTokens(t, l)
		checkLongestAt(t, text, 300)
	}
}
