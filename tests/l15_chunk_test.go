package tests

import (
	"fmt"
	"math"
	"slices"
	"strings"
	"testing"

	"loop.example/g00261/impl"
)

func TestConstantsOfPieces(t *testing.T) {
	if impl.Window != 4 || impl.LeastPiece != 3 || impl.MostPiece != 24 || impl.MaxText != 400 {
		t.Error("limits")
	}
}

func wantNoHash(t *testing.T, s string) {
	t.Helper()
	if got, ok := impl.RollHash(s); ok || got != 0 {
		t.Fatalf("RollHash of %q: got %d %v, want the zero answer", s, got, ok)
	}
}

func TestRollHashByHand(t *testing.T) {
	for s, want := range map[string]int{
		"abcd": 3277, "bcde": 1317, "aaaa": 2251, "    ": 2768, "file": 3705, "aaba": 2282, "ab\x00c": 207, "éé": 2088,
		"\x00\x00\x00\x00": 0, "\xff\xff\xff\xff": 3639, "\xff\xff\xff\xfe": 3638, "\x00\xff\x00\xff": 3823, "\x01\x00\x00\x00": 1140, "\x00\x00\x00\x01": 1, "\x00\x00\x00\x07": 7, "\x00\x00\x07\x00": 217, "\x00\x00\x84\x01": 0,
		"\xff\x00\x00\x00": 97, "\x00\xff\x00\x00": 3568, "\x00\x00\xff\x00": 3812, "\x00\x00\x00\xff": 255,
	} {
		wantRoll(t, s, want)
	}
	for _, s := range []string{"", "a", "ab", "abc", "abcde", "abcdefgh", "ééé", "é", "\x00\x00\x00", "\x00\x00\x00\x00\x00", "\xff\xff\xff", "\xff\xff\xff\xff\xff", strings.Repeat("a", 100000)} {
		wantNoHash(t, s)
	}
}

func TestRollOnByHand(t *testing.T) {
	for _, c := range []struct {
		h       int
		out, in byte
		want    int
	}{
		{0, 0, 0, 0}, {0, 0, 255, 255}, {0, 255, 0, 1086}, {0, 255, 255, 1341}, {1, 0, 0, 31}, {1, 0, 255, 286}, {1, 255, 0, 1117}, {1, 255, 255, 1372},
		{4092, 0, 0, 4062}, {4092, 0, 255, 224}, {4092, 255, 0, 1055}, {4092, 255, 255, 1310}, {3277, 'a', 'e', 1317}, {2251, 'a', 'a', 2251}, {3639, 255, 255, 3639}, {2251, 'a', 'b', 2252},
	} {
		wantRolledOn(t, c.h, c.out, c.in, c.want)
	}
	for _, h := range []int{-1, -2, -4093, 4093, 4094, 8186, math.MaxInt, math.MinInt, math.MinInt + 1} {
		for _, out := range []byte{0, 1, 255} {
			for _, in := range []byte{0, 1, 255} {
				wantNotRolledOn(t, h, out, in)
			}
		}
	}
}

func wantNotRolledOn(t *testing.T, h int, out byte, in byte) {
	t.Helper()
	if got, ok := impl.RollOn(h, out, in); ok || got != 0 {
		t.Fatalf("RollOn of %d, %d, %d: got %d %v, want the zero answer", h, out, in, got, ok)
	}
}

// wantPiecesByHand reads the pieces between '|'.
func wantPiecesByHand(t *testing.T, text string) {
	t.Helper()
	pieces := strings.Split(text, "|")
	var cuts []int
	end := 0
	for _, piece := range pieces {
		end += len(piece)
		cuts = append(cuts, end)
	}
	s := strings.Join(pieces, "")
	wantCuts(t, s, cuts)
	wantPiecesOf(t, s, pieces)
	checkPieces(t, s)
}

func TestPiecesOfFewBytes(t *testing.T) {
	wantCuts(t, "", nil)
	wantPiecesOf(t, "", nil)
	for _, text := range []string{"a", "ab", "abc", "aab", "baa", "bcb", "\x00", "\x00\x00", "\x00\x00\x00", "\xff", "\xff\xff\xff", "abcd", "\x00\x00\x00\x00", "\xff\xff\xff\xff", "é", "éé"} {
		wantPiecesByHand(t, text)
	}
}

func TestPiecesCutByWhatTheyHold(t *testing.T) {
	for what, text := range map[string]string{
		"as a line": "the block| of a |file the block| of a |file", "nowhere": "aaaaaaaaaa", "at the text's 4th byte": "aaba|aaaaaa", "its 5th": "aaaba|aaaaa", "its 8th": "aaaaaaba|aa",
		"at the piece's 1st byte too": "aaba|baaaaa", "its 2nd": "abab|abaaaa", "its 1st and 2nd": "aaba|bbabaa", "its 3rd": "aaba|aba|aaa", "its 2nd and 3rd": "abab|abb|aba", "its 2nd and 4th": "abab|abab|aa", "its 3rd, twice": "aaba|aba|aba", "its 3rd, and once more": "aaba|aba|aba|aba",
		"at the last byte": "aaaaaaaaba", "at the last but one": "aaaaaaaba|a", "three bytes alone": "aba", "where the text ends": "aaba|aba", "the text ends a byte on": "aaba|a", "two bytes on": "aaba|ab",
	} {
		t.Run(what, func(t *testing.T) { wantPiecesByHand(t, text) })
	}
}

// Ahead of the text's 4th byte there is no window, though the bytes so far make a hash that 7 divides.
func TestNoPieceEndsAtTheTextsThirdByte(t *testing.T) {
	for _, text := range []string{"aacaaaaaaa", "baaaaaaaaa", "bcbaaaaaaa", "cbaaaaaaaa", "cbab|aaaaaa", "aace|aaaaaa", "\x00\x00\x00a", "\x00\x00\x00\x00|\x00\x00\x00|\x00\x00\x00|\x00\x00", "\x00\x00\x07ab", "\x00\x00\x07\x00|aa", "\x00\x07\x00a"} {
		wantPiecesByHand(t, text)
	}
}

// asPieces has such rows of one byte, by which no piece ends, between '|'.
func asPieces(longs ...int) string {
	var l []string
	for _, long := range longs {
		l = append(l, strings.Repeat("a", long))
	}
	return strings.Join(l, "|")
}

func TestPiecesOfManyBytes(t *testing.T) {
	for _, text := range []string{
		asPieces(22), asPieces(23), asPieces(24), asPieces(24, 1), asPieces(24, 2), asPieces(24, 3), asPieces(24, 23), asPieces(24, 24), asPieces(24, 24, 1),
		asPieces(20) + "aaba", asPieces(19) + "aaba|a", asPieces(20) + "aaba|" + asPieces(24, 1), asPieces(18) + "aaba|" + asPieces(11), asPieces(23) + "b|" + asPieces(11),
	} {
		wantPiecesByHand(t, text)
	}
	// A window that begins ahead of a piece of MostPiece bytes's end: at the 1st and 2nd byte behind it no piece ends, at the 3rd one does.
	wantPiecesByHand(t, asPieces(23)+"b|a"+asPieces(10))
	wantPiecesByHand(t, asPieces(24)+"|ba"+asPieces(10))
	wantPiecesByHand(t, asPieces(24)+"|aba|"+asPieces(10))
	wantPiecesByHand(t, asPieces(24)+"|aaba|"+asPieces(10))
	wantPiecesByHand(t, "aaba|"+asPieces(24, 3))
	wantPiecesByHand(t, "aaba|aba|"+asPieces(24, 24, 5))
}

func wantNoPieces(t *testing.T, s string) {
	t.Helper()
	if got, ok := impl.CutsOf(s); ok || len(got) != 0 {
		t.Fatalf("CutsOf of %d bytes: got %v %v, want the zero answer", len(s), got, ok)
	}
	if got, ok := impl.PiecesOf(s); ok || len(got) != 0 {
		t.Fatalf("PiecesOf of %d bytes: got %q %v, want the zero answer", len(s), got, ok)
	}
}

func TestPiecesOfAsManyBytesAsThereMayBe(t *testing.T) {
	wantPiecesByHand(t, asPieces(slices.Repeat([]int{24}, 16)...)+"|"+asPieces(16))
	wantPiecesByHand(t, "aaba"+strings.Repeat("|aba", 132))
	wantPiecesByHand(t, "aaba"+strings.Repeat("|aba", 131)+"|aa")
	for _, one := range []string{"a", "\x00", "\xff", "abc", "é"} {
		s := strings.Repeat(one, 1000)
		for _, long := range []int{396, 397, 398, 399, 400} {
			checkPieces(t, s[:long])
		}
		for _, long := range []int{401, 402, 424, 500, 1000} {
			wantNoPieces(t, s[:long])
		}
	}
	wantNoPieces(t, strings.Repeat("a", 100000))
	wantNoPieces(t, strings.Repeat("aba", 134))
}

// wantNew: the vault of such texts.
func wantNew(t *testing.T, texts []string, want impl.Vault) {
	t.Helper()
	got, ok := impl.NewVault(texts)
	wantVault(t, fmt.Sprintf("NewVault of %q", texts), got, ok, want)
	h := &hoard{}
	for _, s := range texts {
		h.put(s)
	}
	wantVault(t, fmt.Sprintf("NewVault of %q, by hand", texts), got, ok, h.Vault)
	checkHoard(t, h)
	wantAllTexts(t, got, texts)
}

func TestNewVaultByHand(t *testing.T) {
	wantNew(t, nil, impl.Vault{})
	wantNew(t, []string{}, impl.Vault{})
	wantNew(t, []string{""}, vaultIn("| -"))
	wantNew(t, []string{"", ""}, vaultIn("| - -"))
	wantNew(t, []string{"a"}, vaultIn("a=1 | 0"))
	wantNew(t, []string{"a", "b", "a"}, vaultIn("a=2 b=1 | 0 1 0"))
	wantNew(t, []string{"aabaaba"}, vaultIn("aaba=1 aba=1 | 0,1"))
	wantNew(t, []string{"aabaabaaba", "", "aba", "b"}, vaultIn("aaba=1 aba=3 b=1 | 0,1,1 - 1 2"))
	wantNew(t, []string{"b", "aabab", "aaba"}, vaultIn("b=2 aaba=2 | 0 1,0 1"))
	wantNew(t, []string{asPieces(50), asPieces(24)}, impl.Vault{Pieces: []impl.Kept{{Text: asPieces(24), Uses: 3}, {Text: "aa", Uses: 1}}, Files: []impl.File{{Parts: []int{0, 0, 1}}, {Parts: []int{0}}}})
}

func TestNewVaultOfAsManyTextsAsThereMayBe(t *testing.T) {
	for _, s := range []string{"", "a", "aabaaba", strings.Repeat("ab", 200)} {
		for many := range 24 {
			l := slices.Repeat([]string{s}, many)
			got, ok := impl.NewVault(l)
			if many > 20 {
				wantNoVault(t, fmt.Sprint(many, " texts"), got, ok)
				continue
			}
			wantVault(t, fmt.Sprint(many, " texts"), got, ok, got)
			wantAllTexts(t, got, l)
		}
	}
	got, ok := impl.NewVault(make([]string, 100000))
	wantNoVault(t, "very many texts", got, ok)
	long := strings.Repeat("a", 401)
	for _, l := range [][]string{{long}, {"a", long, "b"}, {"a", "b", long}, {long, "a"}, {"", long, ""}} {
		got, ok := impl.NewVault(l)
		wantNoVault(t, "one too long", got, ok)
	}
	wantNew(t, []string{"a", long[:400], "b"}, impl.Vault{
		Pieces: []impl.Kept{{Text: "a", Uses: 1}, {Text: asPieces(24), Uses: 16}, {Text: asPieces(16), Uses: 1}, {Text: "b", Uses: 1}},
		Files:  []impl.File{{Parts: []int{0}}, {Parts: append(slices.Repeat([]int{1}, 16), 2)}, {Parts: []int{3}}},
	})
}

// manyPieces are texts that have so many unlike pieces together.
func manyPieces(t *testing.T, many int) []string {
	t.Helper()
	l := []string{""}
	for number := 0; unlikePieces(l) < many; number++ {
		last := len(l) - 1
		if len(l[last]) == 400 {
			l = append(l, "")
			last++
		}
		l[last] += fmt.Sprintf("%04d", 37*number)
	}
	if unlikePieces(l) != many {
		t.Fatalf("%d pieces, not %d", unlikePieces(l), many)
	}
	return l
}

func unlikePieces(texts []string) int {
	pieces := map[string]int{}
	for _, s := range texts {
		for _, piece := range piecesByWords(s) {
			pieces[piece]++
		}
	}
	return len(pieces)
}

func TestNewVaultOfAsManyPiecesAsThereMayBe(t *testing.T) {
	for many := 98; many <= 103; many++ {
		l := manyPieces(t, many)
		got, ok := impl.NewVault(l)
		if many > 100 {
			wantNoVault(t, fmt.Sprint(many, " pieces"), got, ok)
			continue
		}
		wantVault(t, fmt.Sprint(many, " pieces"), got, ok, got)
		wantAllTexts(t, got, l)
		if len(got.Pieces) != many {
			t.Fatalf("%d pieces, not %d", len(got.Pieces), many)
		}
	}
}

func wantGoodVault(t *testing.T, what string, v impl.Vault, want bool) {
	t.Helper()
	if got := impl.GoodVault(v); got != want {
		t.Errorf("%s: GoodVault of %v: got %v", what, v, got)
	}
}

// wantGoodVaults reads a row of vaults, and what they have that counts.
func wantGoodVaults(t *testing.T, want bool, texts map[string]string) {
	t.Helper()
	for what, text := range texts {
		wantGoodVault(t, what, vaultIn(text), want)
	}
}

func TestGoodVaultOfPieces(t *testing.T) {
	wantGoodVault(t, "no Pieces and no Files", impl.Vault{}, true)
	wantGoodVault(t, "no Pieces and no Files, no nil", impl.Vault{Pieces: []impl.Kept{}, Files: []impl.File{}}, true)
	for many := 98; many <= 103; many++ {
		h := fullHoard(many)
		wantGoodVault(t, fmt.Sprint(many, " Pieces"), h.Vault, many <= 100)
		h.Files[1].Parts = h.Files[1].Parts[:len(h.Files[1].Parts)-1]
		wantGoodVault(t, fmt.Sprint(many, " Pieces, the last one not used"), h.Vault, false)
	}
	for long := range 28 {
		v := vaultIn("b=1 =2 | 1,0,1")
		v.Pieces[1].Text = asPieces(long)
		wantGoodVault(t, fmt.Sprint("a piece of ", long), v, long >= 1 && long <= 24)
		v.Pieces = v.Pieces[1:]
		v.Files = []impl.File{{Parts: []int{0, 0}}}
		wantGoodVault(t, fmt.Sprint("a piece of ", long, " alone"), v, long >= 1 && long <= 24)
	}
	for _, piece := range []string{"\x00", "\xff\xfe", " ", strings.Repeat("é", 12), strings.Repeat("\x00", 24)} {
		wantGoodVault(t, "of any bytes", impl.Vault{Pieces: []impl.Kept{{Text: piece, Uses: 1}}, Files: []impl.File{{Parts: []int{0}}}}, true)
	}
	wantGoodVault(t, "25 bytes, 13 runes", impl.Vault{Pieces: []impl.Kept{{Text: strings.Repeat("é", 12) + "x", Uses: 1}}, Files: []impl.File{{Parts: []int{0}}}}, false)
	wantGoodVaults(t, true, map[string]string{
		"one": "a=1 | 0", "one of a kind that no text is cut into": "aabaaba=1 | 0", "in no order of texts": "b=1 a=1 | 0 1", "in no order of use": "a=1 b=1 | 1,0", "one ahead of another": "a=1 ab=1 | 0,1", "by bytes": "a=1 A=1 | 0,1",
	})
	wantGoodVaults(t, false, map[string]string{
		"two alike": "a=1 a=1 | 0,1", "two alike, of two files": "a=1 a=1 | 0 1", "two alike, with another between": "a=1 b=1 a=1 | 0,1,2", "two alike, the first one used": "a=1 a=0 | 0", "two alike, the last one used": "a=0 a=1 | 1", "two alike, all uses at the first": "a=2 a=1 | 0,1", "two alike, all uses at the last": "a=1 a=2 | 0,1", "two alike, all uses at both": "a=2 a=2 | 0,1",
		"two alike, each used twice": "a=2 a=2 | 0,0,1,1", "two alike, used by what means the last": "a=1 a=2 | 1,1,1", "two empty ones": "=1 =1 | 0,1",
	})
}

func TestGoodVaultOfFiles(t *testing.T) {
	for many := range 24 {
		none := impl.Vault{Files: make([]impl.File, many)}
		wantGoodVault(t, fmt.Sprint(many, " files without Parts"), none, many <= 20)
		same := impl.Vault{Pieces: []impl.Kept{{Text: "a", Uses: many}}, Files: slices.Repeat([]impl.File{{Parts: []int{0}}}, many)}
		wantGoodVault(t, fmt.Sprint(many, " files of one piece"), same, many >= 1 && many <= 20)
	}
	for many := 198; many <= 203; many++ {
		v := impl.Vault{Pieces: []impl.Kept{{Text: asPieces(24), Uses: many}}, Files: []impl.File{{Parts: make([]int, many)}}}
		wantGoodVault(t, fmt.Sprint(many, " Parts"), v, many <= 200)
		v.Pieces[0].Uses++
		v.Files = append([]impl.File{{Parts: []int{0}}}, v.Files...)
		wantGoodVault(t, fmt.Sprint(many, " Parts behind another file"), v, many <= 200)
	}
	all := impl.Vault{Pieces: []impl.Kept{{Text: "a", Uses: 4000}}}
	for range 20 {
		all.Files = append(all.Files, impl.File{Parts: make([]int, 200)})
	}
	wantGoodVault(t, "20 Files of 200 Parts", all, true)
	for part := -3; part <= 4; part++ {
		v := vaultIn("a=1 b=1 | 0 1")
		v.Files[1].Parts[0] = part
		wantGoodVault(t, fmt.Sprint("the Part ", part), v, part == 1)
		v = vaultIn("a=1 b=1 | 0,1")
		v.Files = append(v.Files, impl.File{Parts: []int{part}})
		wantGoodVault(t, fmt.Sprint("the Part ", part, " more"), v, false)
	}
	for _, part := range []int{math.MaxInt, math.MinInt, math.MinInt + 1, 100, -100} {
		v := vaultIn("a=1 b=1 | 0,1 -")
		v.Files[1].Parts = []int{part}
		wantGoodVault(t, "a Part far away", v, false)
	}
	wantGoodVaults(t, false, map[string]string{"a Part of no Pieces": "| 0", "a Part -1 of no Pieces": "| -1", "a Part behind all": "a=1 | 0,1", "a Part ahead of all": "a=1 | -1,0", "a Part behind all, alone": "a=1 | 1"})
	wantGoodVault(t, "no Parts, no nil", impl.Vault{Files: []impl.File{{Parts: []int{}}}}, true)
}

func TestGoodVaultOfUses(t *testing.T) {
	good := "a=1 b=3 cd=2 | 1,0,1 - 2 2,1"
	wantGoodVault(t, "as they are", vaultIn(good), true)
	for number := range vaultIn(good).Pieces {
		for _, by := range []int{-3, -2, -1, 1, 2, 3, math.MaxInt, math.MinInt} {
			v := vaultIn(good)
			v.Pieces[number].Uses += by
			wantGoodVault(t, fmt.Sprint("the Uses of ", number, " by ", by), v, false)
		}
	}
	wantGoodVaults(t, false, map[string]string{
		"0, with no Part": "a=0 |", "0, with no Part, of a file": "a=0 | -", "0, with a Part": "a=0 | 0", "1, with no Part": "a=1 |", "1, with no Part, of a file": "a=1 | -", "-1, with no Part": "a=-1 |", "0, with no Part, behind another": "a=1 b=0 | 0", "0, with no Part, ahead of another": "a=0 b=1 | 1",
		"one too few": "a=1 | 0,0", "one too few, of two files": "a=1 | 0 0", "one too many": "a=3 | 0,0", "one too many, of two files": "a=3 | 0 0", "changed places": "a=1 b=2 | 0,0,1", "as many files, not as many Parts": "a=1 | 0,0",
	})
	wantGoodVaults(t, true, map[string]string{"twice in one file": "a=2 | 0,0", "twice, of two files": "a=2 | 0 0", "twice and once": "a=3 | 0,0 0"})
}

// wantPutText: the vault of before, and what is put there.
func wantPutText(t *testing.T, before string, s string, after string) {
	t.Helper()
	got, ok := impl.PutText(vaultIn(before), s)
	wantVault(t, fmt.Sprintf("PutText of %s: %q", before, s), got, ok, vaultIn(after))
	checkPutText(t, hoardIn(before), s)
}

func TestPutTextByHand(t *testing.T) {
	wantPutText(t, "|", "", "| -")
	wantPutText(t, "| -", "", "| - -")
	wantPutText(t, "a=1 | 0", "", "a=1 | 0 -")
	wantPutText(t, "|", "a", "a=1 | 0")
	wantPutText(t, "| -", "a", "a=1 | - 0")
	wantPutText(t, "a=1 | 0", "a", "a=2 | 0 0")
	wantPutText(t, "b=1 | 0", "a", "b=1 a=1 | 0 1")
	wantPutText(t, "|", "aabaaba", "aaba=1 aba=1 | 0,1")
	wantPutText(t, "|", "aabaabaaba", "aaba=1 aba=2 | 0,1,1")
	wantPutText(t, "aba=1 | 0", "aabaabaaba", "aba=3 aaba=1 | 0 1,0,0")
	wantPutText(t, "b=1 aba=1 aaba=2 | 0,1 2,2", "aabaabab", "b=2 aba=2 aaba=3 | 0,1 2,2 2,1,0")
	wantPutText(t, "x=1 y=1 | 0,1", "aabaabab", "x=1 y=1 aaba=1 aba=1 b=1 | 0,1 2,3,4")
	wantPutText(t, "b=1 | 0", "aabaabab", "b=2 aaba=1 aba=1 | 0 1,2,0")
	wantPutText(t, "|", asPieces(24)+asPieces(24), asPieces(24)+"=2 | 0,0")
	wantPutText(t, "aabaaba=1 | 0", "aabaaba", "aabaaba=1 aaba=1 aba=1 | 0 1,2")
}

func TestPutTextOfAsManyBytesAsThereMayBe(t *testing.T) {
	for _, text := range []string{"|", "a=2 | 0,0", "aba=1 b=2 | 0,1 1"} {
		h := hoardIn(text)
		for _, one := range []string{"a", "aba", "abcdefghijk"} {
			s := strings.Repeat(one, 500)
			for _, long := range []int{399, 400, 401, 402, 500} {
				if _, done := checkPutText(t, h, s[:long]); done != (long <= 400) {
					t.Errorf("%d bytes %q: told %v", long, one, done)
				}
			}
		}
	}
	got, ok := impl.PutText(impl.Vault{}, "aaba"+strings.Repeat("aba", 132))
	wantVault(t, "133 Parts", got, ok, impl.Vault{
		Pieces: []impl.Kept{{Text: "aaba", Uses: 1}, {Text: "aba", Uses: 132}},
		Files:  []impl.File{{Parts: append([]int{0}, slices.Repeat([]int{1}, 132)...)}},
	})
}

func TestPutTextIntoAsManyFilesAsThereMayBe(t *testing.T) {
	for many := 17; many <= 20; many++ {
		h := &hoard{impl.Vault{Files: make([]impl.File, many)}}
		for _, s := range []string{"", "a", "aabaaba"} {
			if _, done := checkPutText(t, h, s); done != (many < 20) {
				t.Errorf("%d files, %q: told %v", many, s, done)
			}
		}
		left, _ := checkDropFile(t, h, many/2)
		if _, done := checkPutText(t, left, "a"); !done {
			t.Errorf("%d files, one of them dropped: refused", many)
		}
	}
}

func TestPutTextIntoAsManyPiecesAsThereMayBe(t *testing.T) {
	for many := 96; many <= 100; many++ {
		h := fullHoard(many)
		for s, come := range map[string]int{"": 0, "000": 0, "005": 0, h.Pieces[many-1].Text: 0, "a": 1, "100": 1, "aabaaba": 2, "aabaabaaba": 2, "aabaabac": 3, "aaba": 1} {
			if _, done := checkPutText(t, h, s); done != (many+come <= 100) {
				t.Errorf("%d pieces, %q: told %v", many, s, done)
			}
		}
		left, _ := checkDropFile(t, h, 1)
		if _, done := checkPutText(t, left, "aabaaba"); !done {
			t.Errorf("%d pieces, some of them dropped: refused", many)
		}
	}
}

func TestTextInByHand(t *testing.T) {
	for text, want := range map[string][]string{
		"|": nil, "| -": {""}, "a=1 | 0": {"a"}, "a=3 b=1 | 0,1,0 - 0": {"aba", "", "a"}, "ab=1 c=2 | 1,0 - - 1": {"cab", "", "", "c"}, "aba=2 aaba=1 | 1,0,0": {"aabaabaaba"},
	} {
		v := vaultIn(text)
		wantAllTexts(t, v, want)
		for _, file := range []int{-1, -2, len(want), len(want) + 1, math.MaxInt, math.MinInt} {
			wantNoTextIn(t, v, file)
		}
	}
	// No text so long can be put, but a good vault may have it.
	long := impl.Vault{Pieces: []impl.Kept{{Text: asPieces(24), Uses: 200}}, Files: []impl.File{{Parts: make([]int, 200)}}}
	wantTextIn(t, long, 0, asPieces(4800))
	wantBytesKept(t, long, 24, 4800)
}

func TestDropFileByHand(t *testing.T) {
	for _, c := range []struct {
		before string
		file   int
		after  string
	}{
		{"| -", 0, "|"}, {"| - -", 1, "| -"}, {"a=1 | 0", 0, "|"}, {"a=3 | 0,0,0", 0, "|"}, {"a=1 b=1 | 0,1", 0, "|"}, {"a=1 | - 0", 0, "a=1 | 0"}, {"a=1 | - 0", 1, "| -"}, {"a=2 | 0 0", 0, "a=1 | 0"}, {"a=2 | 0 0", 1, "a=1 | 0"},
		{"a=1 b=1 c=1 | 0 1 2", 1, "a=1 c=1 | 0 1"}, {"a=1 b=1 c=1 | 0 1 2", 0, "b=1 c=1 | 0 1"}, {"a=1 b=1 c=1 | 0 1 2", 2, "a=1 b=1 | 0 1"}, {"a=2 b=2 c=2 | 2,0 1,1 0,2", 1, "a=2 c=2 | 1,0 0,1"},
		{"a=2 b=1 c=2 d=1 e=2 | 0,2,4 1,3 4,2,0", 1, "a=2 c=2 e=2 | 0,1,2 2,1,0"}, {"a=1 b=2 c=1 d=2 e=1 | 0,2,4,1 3,3,1", 0, "b=1 d=2 | 1,1,0"}, {"a=4 b=1 | 0,1,0 0 0", 0, "a=2 | 0 0"}, {"a=2 b=1 c=1 | 1 0,0 - 2", 2, "a=2 b=1 c=1 | 1 0,0 2"},
	} {
		got, ok := impl.DropFile(vaultIn(c.before), c.file)
		wantVault(t, fmt.Sprint("DropFile of ", c.before, ": ", c.file), got, ok, vaultIn(c.after))
		checkDropFile(t, hoardIn(c.before), c.file)
		checkAllDropped(t, hoardIn(c.before))
	}
	for _, text := range []string{"|", "| -", "a=1 | 0", "a=2 b=1 | 0,1 0"} {
		v := vaultIn(text)
		for _, file := range []int{-1, -2, len(v.Files), len(v.Files) + 1, math.MaxInt, math.MinInt} {
			got, ok := impl.DropFile(v, file)
			wantNoVault(t, "DropFile of such a file", got, ok)
		}
	}
	for file := range 2 {
		checkDropFile(t, fullHoard(100), file)
	}
}

func TestBytesKeptByHand(t *testing.T) {
	for text, want := range map[string][2]int{
		"|": {0, 0}, "| - -": {0, 0}, "a=1 | 0": {1, 1}, "a=3 | 0,0,0": {1, 3}, "a=3 | 0 - 0,0": {1, 3}, "abc=2 d=5 | 0,1,0 1,1,1,1": {4, 11}, "a=1 bc=1 def=1 | 0,1,2": {6, 6}, "aaba=2 aba=3 | 0,1,1 1 0": {7, 17},
	} {
		wantBytesKept(t, vaultIn(text), want[0], want[1])
	}
	wantBytesKept(t, fullHoard(100).Vault, 300, 300)
	all := impl.Vault{Pieces: []impl.Kept{{Text: asPieces(24), Uses: 4000}}}
	for range 20 {
		all.Files = append(all.Files, impl.File{Parts: make([]int, 200)})
	}
	wantBytesKept(t, all, 24, 96000)
}
