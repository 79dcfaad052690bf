package tests

import (
	"fmt"
	"slices"
	"strings"
	"testing"

	"loop.example/g00261/impl"
)

// windowByWords reckons each byte of a window by itself: it counts 31 times for each byte behind it.
func windowByWords(s string) int {
	return (29791*int(s[0]) + 961*int(s[1]) + 31*int(s[2]) + int(s[3])) % 4093
}

// endsByWords: whether a piece that begins at from ends behind its n-th byte.
func endsByWords(s string, from int, n int) bool {
	upTo := from + n
	return n >= 3 && upTo >= 4 && windowByWords(s[upTo-4:upTo])%7 == 0 || n == 24 || upTo == len(s)
}

func cutsByWords(s string) []int {
	var cuts []int
	for from := 0; from < len(s); {
		n := 1
		for !endsByWords(s, from, n) {
			n++
		}
		from += n
		cuts = append(cuts, from)
	}
	return cuts
}

func piecesByWords(s string) []string {
	var pieces []string
	from := 0
	for _, cut := range cutsByWords(s) {
		pieces = append(pieces, s[from:cut])
		from = cut
	}
	return pieces
}

// hoard is a vault that is changed on the spot: a piece is looked for in the list, its uses are counted by hand.
type hoard struct {
	impl.Vault
}

// hoardIn reads the pieces as text=uses, and behind '|' the files as their Parts between commas; '-' has none.
func hoardIn(text string) *hoard {
	ahead, behind, _ := strings.Cut(text, "|")
	h := &hoard{}
	for _, word := range strings.Fields(ahead) {
		piece, uses, _ := strings.Cut(word, "=")
		h.Pieces = append(h.Pieces, impl.Kept{Text: piece, Uses: numberIn(uses)})
	}
	for _, word := range strings.Fields(behind) {
		h.Files = append(h.Files, fileIn(word))
	}
	return h
}

func fileIn(word string) impl.File {
	var parts []int
	for number := range strings.SplitSeq(word, ",") {
		if number != "-" {
			parts = append(parts, numberIn(number))
		}
	}
	return impl.File{Parts: parts}
}

func vaultIn(text string) impl.Vault {
	return hoardIn(text).Vault
}

func copyVault(v impl.Vault) impl.Vault {
	out := impl.Vault{Pieces: slices.Clone(v.Pieces), Files: slices.Clone(v.Files)}
	for i, f := range out.Files {
		out.Files[i].Parts = slices.Clone(f.Parts)
	}
	return out
}

func (h *hoard) copied() *hoard {
	return &hoard{copyVault(h.Vault)}
}

func (h *hoard) numberOf(piece string) int {
	return slices.IndexFunc(h.Pieces, func(x impl.Kept) bool { return x.Text == piece })
}

func (h *hoard) put(s string) {
	var parts []int
	for _, piece := range piecesByWords(s) {
		number := h.numberOf(piece)
		if number < 0 {
			number = len(h.Pieces)
			h.Pieces = append(h.Pieces, impl.Kept{Text: piece})
		}
		h.Pieces[number].Uses++
		parts = append(parts, number)
	}
	h.Files = append(h.Files, impl.File{Parts: parts})
}

func (h *hoard) drop(file int) {
	for _, number := range h.Files[file].Parts {
		h.Pieces[number].Uses--
	}
	h.Files = slices.Delete(h.Files, file, file+1)
	for number := len(h.Pieces) - 1; number >= 0; number-- {
		if h.Pieces[number].Uses == 0 {
			h.takeOut(number)
		}
	}
}

// takeOut leaves all greater numbers one less.
func (h *hoard) takeOut(number int) {
	h.Pieces = slices.Delete(h.Pieces, number, number+1)
	for _, f := range h.Files {
		for i, part := range f.Parts {
			if part > number {
				f.Parts[i]--
			}
		}
	}
}

func (h *hoard) hasFile(file int) bool {
	return file >= 0 && file < len(h.Files)
}

func (h *hoard) text(file int) string {
	s := ""
	for _, number := range h.Files[file].Parts {
		s += h.Pieces[number].Text
	}
	return s
}

func (h *hoard) texts() []string {
	var l []string
	for file := range h.Files {
		l = append(l, h.text(file))
	}
	return l
}

// bytes tells those of all pieces, and those of all files.
func (h *hoard) bytes() (int, int) {
	kept := 0
	for _, x := range h.Pieces {
		kept += len(x.Text)
	}
	return kept, len(strings.Join(h.texts(), ""))
}

func sameFile(a impl.File, b impl.File) bool {
	return slices.Equal(a.Parts, b.Parts)
}

func sameVault(a impl.Vault, b impl.Vault) bool {
	return slices.Equal(a.Pieces, b.Pieces) && slices.EqualFunc(a.Files, b.Files, sameFile)
}

func wantVault(t *testing.T, what string, got impl.Vault, ok bool, want impl.Vault) {
	t.Helper()
	if !ok || !sameVault(got, want) || !impl.GoodVault(got) {
		t.Fatalf("%s: got %v %v, want %v", what, got, ok, want)
	}
}

func wantNoVault(t *testing.T, what string, got impl.Vault, ok bool) {
	t.Helper()
	if ok || !sameVault(got, impl.Vault{}) {
		t.Fatalf("%s: got %v %v, want the zero answer", what, got, ok)
	}
}

func wantTextIn(t *testing.T, v impl.Vault, file int, want string) {
	t.Helper()
	if got, ok := impl.TextIn(v, file); !ok || got != want {
		t.Fatalf("TextIn of %v, %d: got %q %v, want %q", v, file, got, ok, want)
	}
}

func wantNoTextIn(t *testing.T, v impl.Vault, file int) {
	t.Helper()
	if got, ok := impl.TextIn(v, file); ok || got != "" {
		t.Fatalf("TextIn of %v, %d: got %q %v, want the zero answer", v, file, got, ok)
	}
}

func wantBytesKept(t *testing.T, v impl.Vault, kept int, all int) {
	t.Helper()
	if gotKept, gotAll, ok := impl.BytesKept(v); !ok || gotKept != kept || gotAll != all {
		t.Fatalf("BytesKept of %v: got %d %d %v, want %d %d", v, gotKept, gotAll, ok, kept, all)
	}
}

func wantCuts(t *testing.T, s string, want []int) {
	t.Helper()
	if got, ok := impl.CutsOf(s); !ok || !slices.Equal(got, want) {
		t.Fatalf("CutsOf of %q: got %v %v, want %v", s, got, ok, want)
	}
}

func wantPiecesOf(t *testing.T, s string, want []string) {
	t.Helper()
	if got, ok := impl.PiecesOf(s); !ok || !slices.Equal(got, want) {
		t.Fatalf("PiecesOf of %q: got %q %v, want %q", s, got, ok, want)
	}
}

func wantRoll(t *testing.T, s string, want int) {
	t.Helper()
	if got, ok := impl.RollHash(s); !ok || got != want {
		t.Fatalf("RollHash of %q: got %d %v, want %d", s, got, ok, want)
	}
}

func wantRolledOn(t *testing.T, h int, out byte, in byte, want int) {
	t.Helper()
	if got, ok := impl.RollOn(h, out, in); !ok || got != want {
		t.Fatalf("RollOn of %d, %d, %d: got %d %v, want %d", h, out, in, got, ok, want)
	}
}

// checkPieces: the pieces are the text, none is longer than it may be, and each ends where CutsOf tells.
func checkPieces(t *testing.T, s string) {
	t.Helper()
	wantCuts(t, s, cutsByWords(s))
	wantPiecesOf(t, s, piecesByWords(s))
	cuts, _ := impl.CutsOf(s)
	pieces, _ := impl.PiecesOf(s)
	if strings.Join(pieces, "") != s || len(cuts) != len(pieces) {
		t.Fatalf("the pieces of %q: %q, cut at %v", s, pieces, cuts)
	}
	end := 0
	for i, piece := range pieces {
		end += len(piece)
		if piece == "" || len(piece) > 24 || end != cuts[i] || len(piece) < 3 && end != len(s) {
			t.Fatalf("the piece %d of %q: %q, cut at %v", i, s, piece, cuts)
		}
	}
}

// checkKeptOnce: no two pieces are alike, each has as many Uses as Parts mean it, and none that no file uses is kept.
func checkKeptOnce(t *testing.T, v impl.Vault) {
	t.Helper()
	uses, texts := make([]int, len(v.Pieces)), map[string]int{}
	for _, f := range v.Files {
		for _, number := range f.Parts {
			uses[number]++
		}
	}
	for number, x := range v.Pieces {
		texts[x.Text]++
		if texts[x.Text] > 1 || x.Uses != uses[number] || x.Uses < 1 {
			t.Fatalf("the piece %d of %v is met %d times and used %d times", number, v, texts[x.Text], uses[number])
		}
	}
}

// checkHoard asks all that can be asked of a good vault.
func checkHoard(t *testing.T, h *hoard) {
	t.Helper()
	if !impl.GoodVault(h.Vault) {
		t.Fatalf("not good: %v", h.Vault)
	}
	checkKeptOnce(t, h.Vault)
	for file := -2; file < len(h.Files)+2; file++ {
		if h.hasFile(file) {
			wantTextIn(t, h.Vault, file, h.text(file))
		} else {
			wantNoTextIn(t, h.Vault, file)
		}
	}
	kept, all := h.bytes()
	wantBytesKept(t, h.Vault, kept, all)
}

// checkVaultStep does a step, and wants what is done to the hoard by hand, or the zero answer where it tells that it may not be done.
func checkVaultStep(t *testing.T, what string, h *hoard, step func(v impl.Vault) (impl.Vault, bool), do func(next *hoard) bool) (*hoard, bool) {
	t.Helper()
	argument, next := h.copied(), h.copied()
	got, ok := step(argument.Vault)
	if !sameVault(argument.Vault, h.Vault) {
		t.Fatalf("%s: %v was written into: %v", what, h.Vault, argument.Vault)
	}
	if !do(next) {
		wantNoVault(t, fmt.Sprint(what, " of ", h.Vault), got, ok)
		return h, false
	}
	wantVault(t, fmt.Sprint(what, " of ", h.Vault), got, ok, next.Vault)
	checkHoard(t, &hoard{got})
	return next, true
}

// wantAllTexts: the files have these texts, in their order.
func wantAllTexts(t *testing.T, v impl.Vault, want []string) {
	t.Helper()
	for file, s := range want {
		wantTextIn(t, v, file, s)
	}
	wantNoTextIn(t, v, len(want))
}

// checkPutText: what is put comes back, behind all others, and these come back as they did.
func checkPutText(t *testing.T, h *hoard, s string) (*hoard, bool) {
	t.Helper()
	next, done := checkVaultStep(t, fmt.Sprintf("PutText %q", s), h,
		func(v impl.Vault) (impl.Vault, bool) { return impl.PutText(v, s) },
		func(next *hoard) bool {
			if len(s) > 400 {
				return false
			}
			next.put(s)
			return len(next.Pieces) <= 100 && len(next.Files) <= 20
		})
	if done {
		wantAllTexts(t, next.Vault, append(h.texts(), s))
	}
	return next, done
}

// checkDropFile: the others come back as they did, in their order.
func checkDropFile(t *testing.T, h *hoard, file int) (*hoard, bool) {
	t.Helper()
	next, done := checkVaultStep(t, fmt.Sprint("DropFile ", file), h,
		func(v impl.Vault) (impl.Vault, bool) { return impl.DropFile(v, file) },
		func(next *hoard) bool {
			if !h.hasFile(file) {
				return false
			}
			next.drop(file)
			return true
		})
	if done {
		wantAllTexts(t, next.Vault, slices.Delete(h.texts(), file, file+1))
	}
	return next, done
}

// checkAllDropped: in either order nothing is kept in the end.
func checkAllDropped(t *testing.T, h *hoard) {
	t.Helper()
	up, down := h, h
	for range h.Files {
		up, _ = checkDropFile(t, up, 0)
		down, _ = checkDropFile(t, down, len(down.Files)-1)
	}
	for _, left := range []*hoard{up, down} {
		if len(left.Pieces) != 0 || len(left.Files) != 0 {
			t.Fatalf("left of %v: %v", h.Vault, left.Vault)
		}
	}
}

// someText has bytes of so many kinds: the fewer, the more of its pieces are alike.
func someText(s *steps, long int, kinds int) string {
	l := make([]byte, long)
	for i := range l {
		l[i] = byte('a' + s.below(kinds))
	}
	return string(l)
}

func TestAHashThatRollsOnIsThatOfTheNextWindow(t *testing.T) {
	s := steps(1500)
	for _, kinds := range []int{1, 2, 3, 26, 256} {
		text := someText(&s, 3000, kinds)
		h, ok := impl.RollHash(text[:4])
		if !ok {
			t.Fatalf("no hash of %q", text[:4])
		}
		for at := 4; at < len(text); at++ {
			wantRolledOn(t, h, text[at-4], text[at], windowByWords(text[at-3:at+1]))
			h, _ = impl.RollOn(h, text[at-4], text[at])
			wantRoll(t, text[at-3:at+1], h)
		}
	}
}

// All bytes go out and come in, of some windows.
func TestAHashRollsOnByAllBytes(t *testing.T) {
	for _, middle := range []string{"\x00\x00\x00", "\xff\xff\xff", "abc", "\x80\x00\x01"} {
		for out := range 256 {
			window := string([]byte{byte(out)}) + middle
			h, _ := impl.RollHash(window)
			wantRoll(t, window, windowByWords(window))
			for in := range 256 {
				wantRolledOn(t, h, byte(out), byte(in), windowByWords(middle+string([]byte{byte(in)})))
			}
		}
	}
}

// What rolls on is a hash again, of any hash.
func TestAllHashesRollOn(t *testing.T) {
	for h := range 4093 {
		for _, bytes := range [][2]byte{{0, 0}, {0, 255}, {255, 0}, {255, 255}, {1, 2}, {'a', 'z'}, {128, 127}} {
			out, in := bytes[0], bytes[1]
			ahead := 31*(h-29791*int(out)) + int(in)
			wantRolledOn(t, h, out, in, (ahead%4093+4093)%4093)
		}
	}
}

func TestThePiecesAreTheText(t *testing.T) {
	for long := range 11 {
		for _, row := range rowsOf(long, 'a', 'b') {
			checkPieces(t, string(row))
		}
	}
	for long := range 8 {
		for _, row := range rowsOf(long, 'a', 'c', 'f') {
			checkPieces(t, string(row))
		}
	}
	s := steps(1501)
	for _, kinds := range []int{1, 2, 3, 5, 26, 256} {
		for range 150 {
			checkPieces(t, someText(&s, s.below(401), kinds))
		}
	}
}

// Behind a place where both are cut, with the same three bytes ahead of it, the same text is cut in the same way, whatever stands ahead.
func TestTextsAreCutTheSameWhereTheyAreTheSame(t *testing.T) {
	s := steps(1502)
	met := 0
	for range 600 {
		same := someText(&s, 60+s.below(100), 4)
		one := someText(&s, s.below(100), 4)
		two := someText(&s, s.below(100), 4)
		ones, _ := impl.CutsOf(one + same)
		twos, _ := impl.CutsOf(two + same)
		for at := 4; at <= len(same); at++ {
			inOne, isOne := slices.BinarySearch(ones, len(one)+at)
			inTwo, isTwo := slices.BinarySearch(twos, len(two)+at)
			if !isOne || !isTwo {
				continue
			}
			if at < len(same) {
				met++
			}
			wantPiecesOf(t, one+same, append(piecesByWords(one + same)[:inOne+1], piecesByWords(two + same)[inTwo+1:]...))
			break
		}
	}
	if met < 400 {
		t.Errorf("both were cut in one place %d times", met)
	}
}

// vaultStep is done to a hoard, and checked.
type vaultStep func(t *testing.T, h *hoard) *hoard

// allVaultSteps are all that can be done with these texts and so many files at most.
func allVaultSteps(files int, texts ...string) []vaultStep {
	var l []vaultStep
	for _, s := range texts {
		l = append(l, func(t *testing.T, h *hoard) *hoard {
			t.Helper()
			next, _ := checkPutText(t, h, s)
			if len(next.Files) > files {
				return h
			}
			return next
		})
	}
	for file := -1; file <= files; file++ {
		l = append(l, func(t *testing.T, h *hoard) *hoard {
			t.Helper()
			next, _ := checkDropFile(t, h, file)
			return next
		})
	}
	return l
}

func checkAllVaults(t *testing.T, h *hoard, many int, steps []vaultStep) {
	t.Helper()
	checkAllWays(t, h, many, steps, checkHoard)
}

func TestVaultsOfFewTextsInAllWays(t *testing.T) {
	checkAllVaults(t, &hoard{}, 400, allVaultSteps(3, "", "a", "aaba", "aabaaba", "ababb"))
	checkAllVaults(t, &hoard{}, 300, allVaultSteps(4, "a", "b"))
	checkAllVaults(t, &hoard{}, 300, allVaultSteps(2, "aabaabaabaa", "aba", "aaba", strings.Repeat("a", 50), "aa"))
}

// At the limit of pieces, in all ways: what needs one too many is refused, all else done.
func TestVaultsAtTheirLimitInAllWays(t *testing.T) {
	for pieces := 97; pieces <= 100; pieces++ {
		checkAllVaults(t, fullHoard(pieces), 20, allVaultSteps(4, "005", "a", "aabab", "", "aaba"))
	}
}

// fullHoard has so many pieces of three bytes, each used once, in files of some.
func fullHoard(pieces int) *hoard {
	h := &hoard{impl.Vault{Files: make([]impl.File, 2)}}
	for number := range pieces {
		h.Pieces = append(h.Pieces, impl.Kept{Text: fmt.Sprintf("%03d", number), Uses: 1})
		file := min(number/60, 1)
		h.Files[file].Parts = append(h.Files[file].Parts, number)
	}
	return h
}

// A row of steps in no order: each text comes back till its file is dropped.
func TestARowOfVaultStepsInNoOrder(t *testing.T) {
	put, full, shared := 0, 0, 0
	for seed := range 30 {
		s := steps(1510 + seed)
		h := &hoard{}
		var held []string
		for range 60 {
			if len(held) > 0 && s.below(4) == 0 {
				file := s.below(len(held))
				h, _ = checkDropFile(t, h, file)
				held = slices.Delete(held, file, file+1)
				wantAllTexts(t, h.Vault, held)
				continue
			}
			text := someText(&s, s.below(1+s.below(401)), 2+seed%5)
			if len(held) > 0 && s.below(3) == 0 {
				text = held[s.below(len(held))] + "x"
			}
			next, done := checkPutText(t, h, text)
			h = next
			if !done {
				full++
				continue
			}
			put++
			held = append(held, text)
			if kept, all, _ := impl.BytesKept(h.Vault); kept < all {
				shared++
			}
			wantAllTexts(t, h.Vault, held)
		}
		checkAllDropped(t, h)
	}
	if put < 600 || full < 60 || shared < 500 {
		t.Errorf("put %d times, too many %d times, shared %d times", put, full, shared)
	}
}

// The same text again and again costs nothing but its Uses.
func TestATextIsKeptOnce(t *testing.T) {
	s := steps(1550)
	for _, long := range []int{0, 1, 3, 4, 60, 399, 400} {
		text := someText(&s, long, 26)
		h := &hoard{}
		for many := 1; many <= 20; many++ {
			next, done := checkPutText(t, h, text)
			if !done {
				t.Fatalf("%q is not put %d times", text, many)
			}
			kept, all, _ := impl.BytesKept(next.Vault)
			if many > 1 && len(next.Pieces) != len(h.Pieces) || kept > long || all != many*long {
				t.Fatalf("%d times %q: %d bytes of %d are kept in %v", many, text, kept, all, next.Vault)
			}
			h = next
		}
		checkAllDropped(t, h)
	}
}

// What is changed in one place costs but some pieces.
func TestAChangedTextSharesItsOtherPieces(t *testing.T) {
	s := steps(1551)
	for range 20 {
		text := someText(&s, 300, 26)
		at := s.below(len(text))
		changed := text[:at] + "!" + text[at:]
		v, ok := impl.NewVault([]string{text, changed})
		kept, all, _ := impl.BytesKept(v)
		if !ok || all != 601 || kept > 300+5*24 {
			t.Errorf("%q, and with a byte more at %d: %d bytes of %d are kept", text, at, kept, all)
		}
		wantAllTexts(t, v, []string{text, changed})
	}
}

// someHoard is a good vault that perhaps no row of puts leads to: pieces of any bytes, and any files of them.
func someHoard(s *steps, pieces int, files int) *hoard {
	h := &hoard{impl.Vault{Files: make([]impl.File, 1+files)}}
	for number := range pieces {
		piece := fmt.Sprint(number) + someText(s, s.below(20), 256)
		h.Pieces = append(h.Pieces, impl.Kept{Text: piece})
	}
	for number := range h.Pieces {
		for range 1 + s.below(3) {
			file := s.below(len(h.Files))
			parts := h.Files[file].Parts
			h.Files[file].Parts = slices.Insert(parts, s.below(len(parts)+1), number)
			h.Pieces[number].Uses++
		}
	}
	return h
}

func TestVaultsInNoOrder(t *testing.T) {
	s := steps(1552)
	for range 60 {
		h := someHoard(&s, s.below(30), s.below(8))
		checkHoard(t, h)
		checkPutText(t, h, someText(&s, s.below(100), 3))
		for _, x := range h.Pieces[:min(3, len(h.Pieces))] {
			checkPutText(t, h, x.Text)
		}
		for file := range h.Files {
			checkDropFile(t, h, file)
		}
		checkAllDropped(t, h)
	}
}
