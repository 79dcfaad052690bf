package tests

import (
	"math"
	"slices"
	"testing"

	"loop.example/g00261/impl"
)

// goodMapByTrial goes by the words of the chapter one by one, and adds nothing up that could wrap round.
func goodMapByTrial(m impl.FileMap) bool {
	if len(m.Pieces) > 40 {
		return false
	}
	inFile, onDevice := map[int]bool{}, map[int]bool{}
	for i, p := range m.Pieces {
		if p.Long < 1 || p.Long > 200 || p.From < 0 || p.From > 200-p.Long || p.At < 0 || p.At > 400-p.Long {
			return false
		}
		for k := range p.Long {
			if inFile[p.From+k] || onDevice[p.At+k] {
				return false
			}
			inFile[p.From+k], onDevice[p.At+k] = true, true
		}
		if i == 0 {
			continue
		}
		q := m.Pieces[i-1]
		if q.From >= p.From || q.From+q.Long == p.From && q.At+q.Long == p.At && q.Fresh == p.Fresh {
			return false
		}
	}
	return true
}

func goodMapTexts() []string {
	return []string{
		"", "0+1@0", "0+1@0*", "199+1@399", "0+200@0", "0+200@200", "0+1@399", "199+1@0", "0+3@397", "197+3@5*",
		"0+3@10 3+2@13*", "0+3@10* 3+2@13", // going on, Fresh not alike
		"0+3@10 3+2@14", "0+3@10* 3+2@14*", "0+3@10 3+2@8", "0+3@10 3+2@0", // going on in the file alone
		"0+3@10 4+2@13", "0+3@10* 4+2@13*", "0+3@10 100+2@13", // going on on the device alone
		"0+3@50 5+3@40 9+2@30*", "0+1@13 1+1@12 2+1@11 3+1@10", "0+2@7 2+2@5", // falling on the device
		"0+2@10 2+2@30 4+2@12", "0+2@10 5+2@12* 7+2@14", "0+2@30 2+2@10 4+1@32 5+1@33* 9+1@9 198+2@398*",
	}
}

// badMaps are not as said, each in one way.
func badMaps() map[string]impl.FileMap {
	l := map[string]impl.FileMap{
		"one more than MaxPieces": spaced(impl.MaxPieces+1, false), "many more": {Pieces: slices.Repeat(mapIn("0+1@0").Pieces, 100000)},
		"a zero piece": {Pieces: []impl.Piece{{}}}, "a zero piece behind": {Pieces: append(mapIn("0+1@0").Pieces, impl.Piece{})},
		"Long 0": mapIn("0+0@0"), "Long -1": mapIn("5+-1@7"), "From -1": mapIn("-1+2@0"), "From 200": mapIn("200+1@0"), "the file's end": mapIn("199+2@0"),
		"At -1": mapIn("0+1@-1"), "At 400": mapIn("0+1@400"), "the device's end": mapIn("0+2@399"), "a bad second one": mapIn("0+1@0 5+1@400"),
		"alike": mapIn("0+3@0 0+3@0"), "alike in From": mapIn("0+3@0 0+3@10"), "falling": mapIn("5+1@0 3+1@10"), "falling later": mapIn("5+1@0 8+1@5 7+1@10"),
		"over the file": mapIn("0+3@0 2+3@10"), "inside, in the file": mapIn("0+9@0 3+1@20"),
		"over the device": mapIn("0+3@10 5+3@12"), "over the device, the other way": mapIn("0+3@12 5+3@10"), "over the device, later": mapIn("0+2@10 4+2@20 8+2@11"),
		"going on": mapIn("0+3@10 3+2@13"), "going on, Fresh": mapIn("0+3@10* 3+2@13*"), "going on, later": mapIn("0+3@10 3+2@14 5+1@16"),
	}
	for what, n := range map[string]int{"most": math.MaxInt, "least": math.MinInt, "nearly most": math.MaxInt - 1} {
		l["From "+what] = impl.FileMap{Pieces: []impl.Piece{{From: n, Long: 1}}}
		l["Long "+what] = impl.FileMap{Pieces: []impl.Piece{{From: 1, Long: n, At: 1}}}
		l["At "+what] = impl.FileMap{Pieces: []impl.Piece{{Long: 1, At: n}}}
		l["all "+what] = impl.FileMap{Pieces: []impl.Piece{{From: n, Long: n, At: n}}}
	}
	return l
}

func wantMapRefused(t *testing.T, what string, m impl.FileMap) {
	t.Helper()
	if impl.GoodMap(m) {
		t.Fatalf("%s: good", what)
	}
	for _, n := range []int{0, 1, 3, 199, -1, 200} {
		if at, fresh, ok := impl.BlockAt(m, n); ok || at != 0 || fresh {
			t.Fatalf("%s: BlockAt: got %d %v %v", what, at, fresh, ok)
		}
		holes, ok := impl.HolesOf(m, n)
		wantNoExtents(t, what, holes, ok)
		cut, gone, ok := impl.TruncateMap(m, n)
		wantNotPunched(t, what, cut, gone, ok)
		for _, long := range []int{0, 1, 200, -1} {
			punched, gone, ok := impl.PunchMap(m, n, long)
			wantNotPunched(t, what, punched, gone, ok)
			written, ok := impl.WrittenMap(m, n, long)
			wantNoMap(t, what, written, ok)
		}
	}
	for _, p := range mapIn("0+1@0 100+1@300 150+2@350* -1+1@0").Pieces {
		got, ok := impl.MapPiece(m, p)
		wantNoMap(t, what, got, ok)
	}
	blocks, ok := impl.BlocksOf(m)
	wantNoExtents(t, what, blocks, ok)
	if many, fresh, ok := impl.MapSize(m); ok || many != 0 || fresh != 0 {
		t.Fatalf("%s: MapSize: got %d %d %v", what, many, fresh, ok)
	}
}

func TestBadMapsAreRefused(t *testing.T) {
	for what, m := range badMaps() {
		if goodMapByTrial(m) {
			t.Errorf("%s is good by trial", what)
		}
		wantMapRefused(t, what, m)
	}
}

// changedMaps differ from a map in one number, one order or one piece.
func changedMaps(m impl.FileMap) []impl.FileMap {
	var l []impl.FileMap
	change := func(at int, by func(p *impl.Piece)) {
		c := impl.FileMap{Pieces: slices.Clone(m.Pieces)}
		by(&c.Pieces[at])
		l = append(l, c)
	}
	for at := range m.Pieces {
		change(at, func(p *impl.Piece) { p.Fresh = !p.Fresh })
		for _, n := range []int{-3, -2, -1, 1, 2, 3, 197, 198, 199, 200, 397, 400, math.MinInt, math.MaxInt} {
			change(at, func(p *impl.Piece) { p.From += n })
			change(at, func(p *impl.Piece) { p.Long += n })
			change(at, func(p *impl.Piece) { p.At += n })
			change(at, func(p *impl.Piece) { p.From, p.Long, p.At = p.From+n, p.Long-n, p.At+n })
			change(at, func(p *impl.Piece) { p.From, p.At = p.From+n, p.At+n })
		}
		for k := range at {
			change(at, func(p *impl.Piece) { p.From = m.Pieces[k].From })
			change(at, func(p *impl.Piece) { p.At = m.Pieces[k].At + m.Pieces[k].Long })
			c := slices.Clone(m.Pieces)
			c[at], c[k] = c[k], c[at]
			l = append(l, impl.FileMap{Pieces: c})
		}
		l = append(l, impl.FileMap{Pieces: slices.Delete(slices.Clone(m.Pieces), at, at+1)})
		l = append(l, impl.FileMap{Pieces: slices.Insert(slices.Clone(m.Pieces), at, m.Pieces[at])})
	}
	return l
}

func checkGoodMap(t *testing.T, m impl.FileMap) {
	t.Helper()
	if good := goodMapByTrial(m); impl.GoodMap(m) != good {
		t.Fatalf("GoodMap of %v: got %v", m, !good)
	}
}

func TestGoodMapsAreWhatTheWordsSay(t *testing.T) {
	for _, text := range goodMapTexts() {
		checkGoodMap(t, mapIn(text))
		for _, one := range changedMaps(mapIn(text)) {
			checkGoodMap(t, one)
			if len(one.Pieces) < 4 {
				for _, two := range changedMaps(one) {
					checkGoodMap(t, two)
				}
			}
		}
	}
	for many := 38; many <= 42; many++ {
		for _, one := range append(changedMaps(spaced(many, false)), spaced(many, true)) {
			checkGoodMap(t, one)
		}
	}
}

// All rows of two pieces among few blocks: those alone are good that the words let be.
func TestAllSmallMaps(t *testing.T) {
	var l []impl.Piece
	for from := -1; from <= 3; from++ {
		for long := range 4 {
			for at := -1; at <= 3; at++ {
				l = append(l, impl.Piece{From: from, Long: long, At: at}, impl.Piece{From: from, Long: long, At: at, Fresh: true})
			}
		}
	}
	for _, row := range rowsOf(2, l...) {
		checkGoodMap(t, impl.FileMap{Pieces: row})
	}
}

func TestOddNumbersInMaps(t *testing.T) {
	for _, text := range []string{"", "3+4@10* 9+2@30", "0+200@0*"} {
		m := mapIn(text)
		s := spotsOf(m)
		for _, n := range append(oddNumbers(), 198, 199, 200, 201, 399, 400, 401) {
			if n >= 0 && n < 200 {
				wantSpot(t, m, n, s[n])
			} else {
				wantNoSpot(t, m, n)
			}
			checkHoles(t, m, s, n)
			checkTruncate(t, s, n)
			for _, k := range oddNumbers() {
				checkPunch(t, s, n, k)
				checkWritten(t, s, n, k)
				checkMapPiece(t, s, impl.Piece{From: n, Long: k, At: 50})
				checkMapPiece(t, s, impl.Piece{From: 15, Long: k, At: n})
				checkMapPiece(t, s, impl.Piece{From: k, Long: 1, At: n, Fresh: true})
			}
		}
	}
}

// roomyMap has room behind its pieces, with pieces in it that are none of its.
func roomyMap(text string) impl.FileMap {
	return impl.FileMap{Pieces: withRoom(mapIn(text).Pieces, piece("190+7@300"), piece("197+2@320*"), piece("199+1@340"))}
}

func wantRoomyMap(t *testing.T, what string, m impl.FileMap, text string) {
	t.Helper()
	wantAsFresh(t, what, [][]impl.Piece{m.Pieces}, [][]impl.Piece{roomyMap(text).Pieces})
}

// wantMapApart: the pieces of an answer are its own.
func wantMapApart(t *testing.T, what string, m impl.FileMap, text string, answer impl.FileMap) {
	t.Helper()
	wantListsApart(t, what, [][]impl.Piece{m.Pieces}, [][]impl.Piece{roomyMap(text).Pieces}, [][]impl.Piece{answer.Pieces}, piece("-9+-9@-9*"))
}

func TestMapAnswersAreNewMemory(t *testing.T) {
	for _, text := range goodMapTexts() {
		for from := range 9 {
			for long := range 9 {
				m := roomyMap(text)
				if got, _, ok := impl.PunchMap(m, from, long); ok {
					wantMapApart(t, "PunchMap", m, text, got)
				}
				m = roomyMap(text)
				if got, ok := impl.WrittenMap(m, from, long); ok {
					wantMapApart(t, "WrittenMap", m, text, got)
				}
				m = roomyMap(text)
				if got, ok := impl.MapPiece(m, impl.Piece{From: from, Long: 1 + long, At: 60 + from}); ok {
					wantMapApart(t, "MapPiece", m, text, got)
				}
				m = roomyMap(text)
				if got, ok := impl.MapPiece(m, impl.Piece{From: from, Long: 1 + long, At: 10 + from}); ok {
					wantMapApart(t, "MapPiece of one that may go on", m, text, got)
				}
				wantRoomyMap(t, "mapped, punched, written or refused", m, text)
			}
			for _, blocks := range []int{from, 200 - from} {
				m := roomyMap(text)
				got, _, ok := impl.TruncateMap(m, blocks)
				if !ok {
					t.Fatalf("TruncateMap of %d is refused", blocks)
				}
				wantMapApart(t, "TruncateMap", m, text, got)
			}
		}
	}
}

// Nothing done is an answer too: it is a copy.
func TestAMapThatStaysIsACopy(t *testing.T) {
	for _, text := range goodMapTexts() {
		for _, n := range []int{0, 1, 2, 5, 199, 200} {
			m := roomyMap(text)
			punched, gone, ok := impl.PunchMap(m, n, 0)
			wantMap(t, "PunchMap of nothing", punched, ok, mapIn(text))
			wantExtents(t, "PunchMap of nothing", gone, ok, nil)
			wantMapApart(t, "PunchMap of nothing", m, text, punched)
			m = roomyMap(text)
			written, ok := impl.WrittenMap(m, n, 0)
			wantMap(t, "WrittenMap of nothing", written, ok, mapIn(text))
			wantMapApart(t, "WrittenMap of nothing", m, text, written)
		}
	}
}

func TestQuestionsWriteIntoNoMap(t *testing.T) {
	for _, text := range goodMapTexts() {
		m := roomyMap(text)
		s := spotsOf(mapIn(text))
		checkMap(t, m, s)
		for blocks := -1; blocks <= 201; blocks++ {
			checkHoles(t, m, s, blocks)
			wantRoomyMap(t, "asked", m, text)
		}
		for range 2 {
			holes, ok := impl.HolesOf(m, 200)
			wantExtents(t, "HolesOf", holes, ok, extentsOf(s.mapped(200), false))
			spoil(holes, extent(-9, -9))
			blocks, ok := impl.BlocksOf(m)
			wantExtents(t, "BlocksOf", blocks, ok, extentsOf(s.taken(0, 200), true))
			spoil(blocks, extent(-9, -9))
			_, gone, ok := impl.PunchMap(m, 0, 200)
			wantExtents(t, "PunchMap", gone, ok, extentsOf(s.taken(0, 200), true))
			spoil(gone, extent(-9, -9))
			wantRoomyMap(t, "the answers spoilt", m, text)
		}
	}
	for what, m := range badMaps() {
		held := slices.Clone(m.Pieces)
		wantMapRefused(t, what, m)
		if !slices.Equal(m.Pieces, held) {
			t.Errorf("%s: a refusal wrote into it", what)
		}
	}
}

// What lies behind the length is none of the map: there it would be in the way.
func TestPiecesBehindTheLengthDoNotCount(t *testing.T) {
	m := roomyMap("0+3@10 5+2@20*")
	wantSpot(t, m, 190, hole)
	got, ok := impl.MapPiece(m, piece("190+9@300"))
	wantMap(t, "MapPiece where one lies behind", got, ok, mapIn("0+3@10 5+2@20* 190+9@300"))
	got, ok = impl.WrittenMap(m, 190, 1)
	wantNoMap(t, "WrittenMap of what lies behind", got, ok)
	none := impl.FileMap{Pieces: m.Pieces[:0]}
	checkMap(t, none, noSpots())
	bad := mapIn("0+3@10 3+2@13")
	if impl.GoodMap(bad) || !impl.GoodMap(impl.FileMap{Pieces: bad.Pieces[:1]}) {
		t.Error("a piece behind the length makes it bad")
	}
	full := spaced(impl.MaxPieces+1, false)
	full.Pieces = full.Pieces[:impl.MaxPieces]
	checkSpots(t, full, spotsOf(spaced(impl.MaxPieces, false)))
}

// Two steps from one map do not meet in the memory behind its pieces, nor in what was cut.
func TestTwoStepsFromOneMap(t *testing.T) {
	text := "0+6@10* 8+2@30"
	m := roomyMap(text)
	one, okOne := impl.MapPiece(m, piece("20+2@50"))
	two, okTwo := impl.MapPiece(m, piece("22+2@60*"))
	three, _, okThree := impl.PunchMap(m, 2, 2)
	four, okFour := impl.WrittenMap(m, 1, 1)
	five, _, okFive := impl.TruncateMap(m, 3)
	wantMap(t, "the first", one, okOne, mapIn("0+6@10* 8+2@30 20+2@50"))
	wantMap(t, "the second", two, okTwo, mapIn("0+6@10* 8+2@30 22+2@60*"))
	wantMap(t, "the third", three, okThree, mapIn("0+2@10* 4+2@14* 8+2@30"))
	wantMap(t, "the fourth", four, okFour, mapIn("0+1@10* 1+1@11 2+4@12* 8+2@30"))
	wantMap(t, "the fifth", five, okFive, mapIn("0+3@10*"))
	wantRoomyMap(t, "all five", m, text)
}
