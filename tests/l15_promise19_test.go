package tests

import (
	"fmt"
	"math"
	"slices"
	"strings"
	"testing"

	"loop.example/g00261/impl"
)

// goodVaultByWords goes by the words of the chapter one by one.
func goodVaultByWords(v impl.Vault) bool {
	if len(v.Pieces) > 100 || len(v.Files) > 20 {
		return false
	}
	for _, f := range v.Files {
		if len(f.Parts) > 200 {
			return false
		}
		for _, number := range f.Parts {
			if number < 0 || number >= len(v.Pieces) {
				return false
			}
		}
	}
	for number, x := range v.Pieces {
		if x.Text == "" || len(x.Text) > 24 || x.Uses < 1 || x.Uses != partsThatMean(v, number) {
			return false
		}
		for _, other := range v.Pieces[:number] {
			if other.Text == x.Text {
				return false
			}
		}
	}
	return true
}

func partsThatMean(v impl.Vault, number int) int {
	many := 0
	for _, f := range v.Files {
		for _, part := range f.Parts {
			if part == number {
				many++
			}
		}
	}
	return many
}

// goodVaultTexts are vaults that are good, each in its own way.
func goodVaultTexts() []string {
	return []string{
		"|", "| -", "| - - -", "a=1 | 0", "a=2 | 0,0", "a=2 | 0 0", "b=1 a=1 | 0,1", "b=1 a=1 | 1 - 0", "aaba=1 aba=3 | 0,1,1 1", "aba=3 aaba=1 b=1 | 0 1,0,0 - 2",
		"a=3 ab=1 abc=2 b=4 | 3,2,1,0 0,0 - 3,3 2,3", "abcdefghijklmnopqrstuvwx=2 y=1 | 0,1,0", "aabaaba=1 aaba=1 | 0 1", "x=20 | 0 0 0 0 0 0 0 0 0 0 0 0 0 0 0 0 0 0 0 0", "c=2 b=2 a=2 | 0,1,2 2,1,0", "a=1 b=1 c=1 d=1 e=1 | 4 2 0 1 3",
	}
}

// badVaults are not as said, each in one way.
func badVaults() []impl.Vault {
	var l []impl.Vault
	for _, text := range []string{
		"| 0", "| -1", "a=1 |", "a=1 | -", "a=0 |", "a=0 | 0", "a=-1 |", "a=2 | 0", "a=1 | 0,0", "a=1 | 1", "a=1 | 0 1", "a=1 | 0 -1", "=1 | 0", "a=1 a=1 | 0,1", "a=1 a=1 | 0 1", "a=2 a=2 | 0,1", "a=2 a=2 | 0,0 1,1", "a=1 b=1 a=1 | 0,1,2", "a=1 a=0 | 0", "a=0 a=1 | 1",
		"a=1 b=0 | 0", "a=1 b=2 | 0,0,1", "abcdefghijklmnopqrstuvwxy=1 | 0", "a=1 abcdefghijklmnopqrstuvwxy=1 | 0 1", "a=1 =1 | 0 1", "a=21 | 0 0 0 0 0 0 0 0 0 0 0 0 0 0 0 0 0 0 0 0 0", "| - - - - - - - - - - - - - - - - - - - - -",
	} {
		l = append(l, vaultIn(text))
	}
	parts := impl.Vault{Pieces: []impl.Kept{{Text: "a", Uses: 201}}, Files: []impl.File{{Parts: make([]int, 201)}}}
	many := impl.Vault{Pieces: []impl.Kept{{Text: "a", Uses: 100000}}, Files: []impl.File{{Parts: make([]int, 100000)}}}
	long := impl.Vault{Pieces: []impl.Kept{{Text: strings.Repeat("a", 100000), Uses: 1}}, Files: []impl.File{{Parts: []int{0}}}}
	l = append(l, parts, many, long, fullHoard(101).Vault, impl.Vault{Pieces: make([]impl.Kept, 100000)}, impl.Vault{Files: make([]impl.File, 100000)})
	for _, n := range oddNumbers() {
		if n != 0 {
			l = append(l, impl.Vault{Pieces: []impl.Kept{{Text: "a", Uses: 1}}, Files: []impl.File{{Parts: []int{n}}}})
			l = append(l, impl.Vault{Pieces: []impl.Kept{{Text: "a", Uses: 1}}, Files: []impl.File{{}, {Parts: []int{0, n}}}})
		}
		if n != 1 {
			l = append(l, impl.Vault{Pieces: []impl.Kept{{Text: "a", Uses: n}}, Files: []impl.File{{Parts: []int{0}}}})
		}
		l = append(l, impl.Vault{Pieces: []impl.Kept{{Text: "a", Uses: n}}})
	}
	return l
}

func wantVaultRefused(t *testing.T, v impl.Vault) {
	t.Helper()
	if impl.GoodVault(v) {
		t.Fatalf("%v is good", v)
	}
	if kept, all, ok := impl.BytesKept(v); ok || kept != 0 || all != 0 {
		t.Fatalf("BytesKept of %v: got %d %d %v, want the zero answer", v, kept, all, ok)
	}
	for _, s := range []string{"", "a", "aabaaba", strings.Repeat("a", 400), strings.Repeat("a", 401)} {
		got, ok := impl.PutText(v, s)
		wantNoVault(t, "PutText", got, ok)
	}
	for _, file := range []int{0, 1, len(v.Files) - 1, len(v.Files), -1, math.MaxInt, math.MinInt} {
		wantNoTextIn(t, v, file)
		got, ok := impl.DropFile(v, file)
		wantNoVault(t, "DropFile", got, ok)
	}
}

func TestBadVaultsAreRefused(t *testing.T) {
	for _, v := range badVaults() {
		if goodVaultByWords(v) {
			t.Fatalf("%v is good by the words", v)
		}
		held := copyVault(v)
		wantVaultRefused(t, v)
		if !sameVault(v, held) {
			t.Fatalf("a refusal wrote into %v", held)
		}
	}
}

func TestOddNumbersInVaults(t *testing.T) {
	for _, n := range oddNumbers() {
		if n < 0 || n > 4092 {
			wantNotRolledOn(t, n, 0, 0)
			wantNotRolledOn(t, n, 255, 1)
		} else {
			wantRolledOn(t, n, 0, 0, 31*n%4093)
		}
		for _, text := range goodVaultTexts() {
			h := hoardIn(text)
			checkDropFile(t, h, n)
			if h.hasFile(n) {
				wantTextIn(t, h.Vault, n, h.text(n))
			} else {
				wantNoTextIn(t, h.Vault, n)
			}
		}
	}
}

func TestOddTextsInVaults(t *testing.T) {
	for _, s := range []string{"", "\x00", "\xff", "\x00\x00\x00\x00", "\xff\xfe\xfd", "é", "日本語", "a\nb\tc", " ", "\x00aaba", strings.Repeat("\x00", 400), strings.Repeat("\xff", 400), strings.Repeat("é", 200), strings.Repeat("é", 200) + "x", strings.Repeat("a", 100000)} {
		if len(s) == 4 {
			wantRoll(t, s, windowByWords(s))
		} else {
			wantNoHash(t, s)
		}
		if len(s) > 400 {
			wantNoPieces(t, s)
		} else {
			checkPieces(t, s)
		}
		for _, text := range goodVaultTexts() {
			checkPutText(t, hoardIn(text), s)
		}
		got, ok := impl.NewVault([]string{s, "a", s})
		if len(s) > 400 {
			wantNoVault(t, "NewVault", got, ok)
		} else {
			wantAllTexts(t, got, []string{s, "a", s})
		}
	}
}

// checkGoodVault: what is good by the words is good, and answered; what is not is neither.
func checkGoodVault(t *testing.T, v impl.Vault) bool {
	t.Helper()
	good := goodVaultByWords(v)
	if impl.GoodVault(v) != good {
		t.Fatalf("GoodVault of %v: got %v", v, !good)
	}
	if !good {
		wantVaultRefused(t, v)
		return false
	}
	h := &hoard{v}
	checkHoard(t, h)
	checkPutText(t, h, "aabaaba")
	if len(v.Files) > 0 {
		checkDropFile(t, h, 0)
	}
	return true
}

// changedVaults differ from a vault in one number, one text, one piece or one file.
func changedVaults(v impl.Vault) []impl.Vault {
	var l []impl.Vault
	change := func(by func(w *impl.Vault)) {
		w := copyVault(v)
		by(&w)
		l = append(l, w)
	}
	for number := range v.Pieces {
		for _, by := range []int{-1, 1, math.MaxInt, math.MinInt} {
			change(func(w *impl.Vault) { w.Pieces[number].Uses += by })
		}
		for _, piece := range []string{"", "a", "new", strings.Repeat("x", 24), strings.Repeat("x", 25), v.Pieces[0].Text} {
			change(func(w *impl.Vault) { w.Pieces[number].Text = piece })
		}
		change(func(w *impl.Vault) { w.Pieces[number], w.Pieces[0] = w.Pieces[0], w.Pieces[number] })
		change(func(w *impl.Vault) { w.Pieces = slices.Delete(w.Pieces, number, number+1) })
		change(func(w *impl.Vault) { w.Pieces = append(w.Pieces, w.Pieces[number]) })
	}
	for _, x := range []impl.Kept{{}, {Text: "new"}, {Text: "new", Uses: 1}, {Uses: 1}} {
		change(func(w *impl.Vault) { w.Pieces = append(w.Pieces, x) })
	}
	for file, f := range v.Files {
		for i := range f.Parts {
			for _, by := range []int{-1, 1, math.MaxInt, math.MinInt} {
				change(func(w *impl.Vault) { w.Files[file].Parts[i] += by })
			}
			change(func(w *impl.Vault) { w.Files[file].Parts = slices.Delete(w.Files[file].Parts, i, i+1) })
			change(func(w *impl.Vault) {
				parts := w.Files[file].Parts
				parts[i], parts[0] = parts[0], parts[i]
			})
		}
		for _, part := range []int{0, -1, len(v.Pieces) - 1, len(v.Pieces)} {
			change(func(w *impl.Vault) { w.Files[file].Parts = append(w.Files[file].Parts, part) })
			change(func(w *impl.Vault) {
				w.Files[file].Parts = append(w.Files[file].Parts, part)
				if part >= 0 && part < len(w.Pieces) {
					w.Pieces[part].Uses++
				}
			})
		}
		change(func(w *impl.Vault) { w.Files = slices.Delete(w.Files, file, file+1) })
		change(func(w *impl.Vault) { w.Files = append(w.Files, impl.File{Parts: slices.Clone(f.Parts)}) })
	}
	for _, parts := range [][]int{nil, {0}, {-1}, {len(v.Pieces)}} {
		change(func(w *impl.Vault) { w.Files = append(w.Files, impl.File{Parts: parts}) })
	}
	return l
}

func TestGoodVaultIsWhatTheWordsSay(t *testing.T) {
	var c tally
	for _, text := range goodVaultTexts() {
		if !goodVaultByWords(vaultIn(text)) {
			t.Errorf("%s is not good by the words", text)
		}
		for _, one := range changedVaults(vaultIn(text)) {
			c.count(checkGoodVault(t, one))
		}
	}
	for _, text := range []string{"|", "a=1 | 0", "a=2 b=1 | 0,1 0"} {
		for _, one := range changedVaults(vaultIn(text)) {
			for _, two := range changedVaults(one) {
				c.count(checkGoodVault(t, two))
			}
		}
	}
	c.wantBoth(t, 200, 1500)
}

func TestVaultsOfFewPiecesInAllWays(t *testing.T) {
	var pieces []impl.Kept
	for _, word := range []string{"a", "b", ""} {
		for uses := -1; uses <= 3; uses++ {
			pieces = append(pieces, impl.Kept{Text: word, Uses: uses})
		}
	}
	var files []impl.File
	for _, word := range []string{"-", "0", "1", "0,0", "0,1", "1,0", "2", "-1"} {
		files = append(files, fileIn(word))
	}
	good := 0
	for manyPieces := range 3 {
		for _, kept := range rowsOf(manyPieces, pieces...) {
			for manyFiles := range 3 {
				for _, held := range rowsOf(manyFiles, files...) {
					if checkGoodVault(t, impl.Vault{Pieces: kept, Files: held}) {
						good++
					}
				}
			}
		}
	}
	if good < 50 {
		t.Errorf("%d were good", good)
	}
}

func spoiltFile() impl.File {
	return impl.File{Parts: []int{-9}}
}

func spoiltKept() impl.Kept {
	return impl.Kept{Text: "spoilt", Uses: -9}
}

// roomyVault has room behind each of its lists, with what is none of the list in it.
func roomyVault(text string) impl.Vault {
	v := vaultIn(text)
	for i, f := range v.Files {
		v.Files[i].Parts = withRoom(f.Parts, 77, 78)
	}
	v.Files = withRoom(v.Files, impl.File{Parts: []int{77}}, impl.File{Parts: []int{78}})
	v.Pieces = withRoom(v.Pieces, impl.Kept{Text: "behind", Uses: 77}, impl.Kept{Text: "behind", Uses: 78})
	return v
}

func partsOfVault(v impl.Vault) [][]int {
	var l [][]int
	for _, f := range v.Files {
		l = append(l, f.Parts)
	}
	return l
}

// wantRoomyVault: no list was written into, also behind its length.
func wantRoomyVault(t *testing.T, what string, v impl.Vault, text string) {
	t.Helper()
	fresh := roomyVault(text)
	if len(v.Files) != len(fresh.Files) || !slices.EqualFunc(wholeOf(v.Files), wholeOf(fresh.Files), sameFile) {
		t.Fatalf("%s: written into: %v", what, wholeOf(v.Files))
	}
	wantAsFresh(t, what, [][]impl.Kept{v.Pieces}, [][]impl.Kept{fresh.Pieces})
	wantAsFresh(t, what, partsOfVault(v), partsOfVault(fresh))
}

// wantVaultApart: each list of an answer is its own.
func wantVaultApart(t *testing.T, what string, v impl.Vault, text string, answer impl.Vault) {
	t.Helper()
	for _, f := range wholeOf(answer.Files) {
		if slices.Contains(f.Parts, 77) || slices.Contains(f.Parts, 78) {
			t.Fatalf("%s: a file from behind a length", what)
		}
	}
	wantRoomyVault(t, what, v, text)
	held, parts := copyVault(answer), partsOfVault(v)
	spoil(v.Files, spoiltFile())
	if !sameVault(answer, held) {
		t.Fatalf("%s, the files of the argument spoilt: got %v, want %v", what, answer, held)
	}
	copy(v.Files[:cap(v.Files)], wholeOf(roomyVault(text).Files))
	for i, l := range parts {
		v.Files[i].Parts = l
	}
	partsOfAnswer := partsOfVault(answer)
	spoil(answer.Files, spoiltFile())
	wantRoomyVault(t, what+", the files of the answer spoilt", v, text)
	fresh := roomyVault(text)
	wantListsApart(t, what, [][]impl.Kept{v.Pieces}, [][]impl.Kept{fresh.Pieces}, [][]impl.Kept{answer.Pieces}, spoiltKept())
	wantListsApart(t, what, parts, partsOfVault(fresh), partsOfAnswer, -9)
}

// stepsOnVaults are done to some of the good vaults and refused to others.
func stepsOnVaults() map[string]func(v impl.Vault) (impl.Vault, bool) {
	l := map[string]func(v impl.Vault) (impl.Vault, bool){}
	for _, s := range []string{"", "a", "b", "aaba", "aabaabaaba", "new"} {
		l["PutText "+s] = func(v impl.Vault) (impl.Vault, bool) { return impl.PutText(v, s) }
	}
	for file := range 3 {
		l[fmt.Sprint("DropFile ", file)] = func(v impl.Vault) (impl.Vault, bool) { return impl.DropFile(v, file) }
	}
	return l
}

func TestVaultAnswersAreNewMemory(t *testing.T) {
	told := map[string]int{}
	for _, text := range goodVaultTexts() {
		for name, step := range stepsOnVaults() {
			plain, isPlain := step(vaultIn(text))
			v := roomyVault(text)
			got, ok := step(v)
			if ok != isPlain || !sameVault(got, plain) {
				t.Fatalf("%s of %s: what lies behind a length counts: got %v %v", name, text, got, ok)
			}
			wantRoomyVault(t, name, v, text)
			if ok {
				told[name]++
				wantVaultApart(t, name+" of "+text, v, text, got)
			}
		}
	}
	for name := range stepsOnVaults() {
		if told[name] < 2 {
			t.Errorf("%s told true %d times", name, told[name])
		}
	}
}

func TestQuestionsWriteIntoNoVault(t *testing.T) {
	for _, text := range goodVaultTexts() {
		h := hoardIn(text)
		h.Vault = roomyVault(text)
		for range 2 {
			checkHoard(t, h)
			wantRoomyVault(t, "asked", h.Vault, text)
		}
	}
}

func TestNewVaultWritesIntoNoTexts(t *testing.T) {
	want := []string{"aabaaba", "", "b", "aaba", "aabaaba"}
	l := roomyTexts(want...)
	one, _ := impl.NewVault(l)
	wantRoomyTexts(t, "NewVault", l, want...)
	two, ok := impl.NewVault(l)
	for _, f := range one.Files {
		spoil(f.Parts, -9)
	}
	spoil(one.Files, spoiltFile())
	spoil(one.Pieces, spoiltKept())
	after := vaultIn("aaba=3 aba=2 b=1 | 0,1 - 2 0 0,1")
	wantVault(t, "the second", two, ok, after)
	spoil(l, "spoilt")
	wantVault(t, "the second, the texts spoilt", two, ok, after)
	parts := partsOfVault(two)
	var held [][]int
	for _, row := range parts {
		held = append(held, slices.Clone(row))
	}
	for i, row := range parts {
		spoil(row, -9)
		wantAsHeld(t, "another file spoilt", parts[i+1:], held[i+1:])
	}
}

func TestCutsAndPiecesAreNewMemory(t *testing.T) {
	for _, s := range []string{"", "a", "aabaabaaba", strings.Repeat("ab", 200)} {
		for range 3 {
			cuts, _ := impl.CutsOf(s)
			pieces, _ := impl.PiecesOf(s)
			spoil(cuts, -9)
			spoil(pieces, "spoilt")
			checkPieces(t, s)
		}
	}
}

// What is not good by its length alone is not made good by what lies behind it, nor the other way.
func TestListsOfVaultsEndAtTheirLength(t *testing.T) {
	full := fullHoard(101).Vault
	full.Files[1].Parts = full.Files[1].Parts[:40]
	wantGoodVault(t, "101 pieces, the last one not used", full, false)
	full.Pieces = full.Pieces[:100]
	wantGoodVault(t, "100 pieces, and one behind them", full, true)
	got, ok := impl.PutText(full, "100")
	wantNoVault(t, "PutText of what lies behind the length", got, ok)
	files := impl.Vault{Files: make([]impl.File, 21)[:20]}
	wantGoodVault(t, "20 files, and one behind them", files, true)
	got, ok = impl.PutText(files, "")
	wantNoVault(t, "PutText into 20 files", got, ok)
	wantNoTextIn(t, files, 20)
	parts := impl.Vault{Pieces: []impl.Kept{{Text: "a", Uses: 200}}, Files: []impl.File{{Parts: make([]int, 201)[:200]}}}
	wantGoodVault(t, "200 Parts, and one behind them", parts, true)
	alike := vaultIn("a=1 b=1 a=1 | 0,1")
	alike.Pieces = alike.Pieces[:2]
	wantGoodVault(t, "a piece behind the length that is alike", alike, true)
	short := vaultIn("a=1 b=1 | 0,1")
	short.Pieces = short.Pieces[:1]
	wantVaultRefused(t, short)
	few := vaultIn("a=2 | 0,0")
	few.Files[0].Parts = few.Files[0].Parts[:1]
	wantVaultRefused(t, few)
	none := vaultIn("a=1 | 0")
	none.Files = none.Files[:0]
	wantVaultRefused(t, none)
}

// Steps from one vault do not meet in its lists.
func TestTwoStepsFromOneVault(t *testing.T) {
	text := "a=2 b=1 | 0,1 0"
	v := roomyVault(text)
	one, okOne := impl.PutText(v, "a")
	two, okTwo := impl.PutText(v, "c")
	three, okThree := impl.DropFile(v, 0)
	four, okFour := impl.DropFile(v, 1)
	five, okFive := impl.PutText(one, "d")
	wantVault(t, "the first", one, okOne, vaultIn("a=3 b=1 | 0,1 0 0"))
	for _, parts := range partsOfVault(one) {
		spoil(parts, -9)
	}
	spoil(one.Files, spoiltFile())
	spoil(one.Pieces, spoiltKept())
	wantVault(t, "the second", two, okTwo, vaultIn("a=2 b=1 c=1 | 0,1 0 2"))
	wantVault(t, "the third", three, okThree, vaultIn("a=1 | 0"))
	wantVault(t, "the fourth", four, okFour, vaultIn("a=1 b=1 | 0,1"))
	wantVault(t, "the fifth", five, okFive, vaultIn("a=3 b=1 d=1 | 0,1 0 0 2"))
	wantRoomyVault(t, "all five", v, text)
}

// The same call answers the same each time: nothing hangs on the order in which pieces are gone through.
func TestVaultsAnswerTheSameEachTime(t *testing.T) {
	s := steps(1590)
	h := fullHoard(90)
	many := someHoard(&s, 60, 9)
	for range 60 {
		checkPutText(t, h, "zyxwvutsrqponm")
		checkDropFile(t, h, 0)
		checkDropFile(t, h, 1)
		for file := range many.Files {
			checkDropFile(t, many, file)
		}
		checkHoard(t, many)
	}
}
