package tests

import (
	"slices"
	"strings"
	"testing"

	"loop.example/g00261/impl"
)

// piece reads a piece from a text: From, '+', Long, '@', At, and '*' behind a Fresh one.
func piece(text string) impl.Piece {
	plain, fresh := strings.CutSuffix(text, "*")
	from, rest, _ := strings.Cut(plain, "+")
	long, at, _ := strings.Cut(rest, "@")
	return impl.Piece{From: numberIn(from), Long: numberIn(long), At: numberIn(at), Fresh: fresh}
}

// mapIn reads a map: its pieces, with blanks between.
func mapIn(text string) impl.FileMap {
	var m impl.FileMap
	for _, word := range strings.Fields(text) {
		m.Pieces = append(m.Pieces, piece(word))
	}
	return m
}

// spaced is so many pieces of three blocks, with a hole of one block between them, as wide on the device.
func spaced(many int, fresh bool) impl.FileMap {
	var m impl.FileMap
	for i := range many {
		m.Pieces = append(m.Pieces, impl.Piece{From: 4 * i, Long: 3, At: 100 + 4*i, Fresh: fresh})
	}
	return m
}

// spot is where a block of the file lies, and whether nothing was written there yet.
type spot struct {
	at    int
	fresh bool
}

var hole = spot{at: -1}

// spots are those of all blocks of a file, one by one.
type spots []spot

func noSpots() spots {
	return slices.Repeat(spots{hole}, impl.MaxFileBlocks)
}

// spotsOf lays out the pieces of a map that is known to be good.
func spotsOf(m impl.FileMap) spots {
	s := noSpots()
	for _, p := range m.Pieces {
		s = s.with(p)
	}
	return s
}

func (s spots) with(p impl.Piece) spots {
	out := slices.Clone(s)
	for i := range p.Long {
		out[p.From+i] = spot{p.At + i, p.Fresh}
	}
	return out
}

func (s spots) without(from int, long int) spots {
	out := slices.Clone(s)
	for i := range long {
		out[from+i] = hole
	}
	return out
}

func (s spots) written(from int, long int) spots {
	out := slices.Clone(s)
	for i := range long {
		out[from+i].fresh = false
	}
	return out
}

// laid is the map of the longest pieces that can be: of all maps of these spots it alone is good.
func (s spots) laid() impl.FileMap {
	var m impl.FileMap
	for i, x := range s {
		if x == hole {
			continue
		}
		if i == 0 || s[i-1] == hole || s[i-1].at+1 != x.at || s[i-1].fresh != x.fresh {
			m.Pieces = append(m.Pieces, impl.Piece{From: i, At: x.at, Fresh: x.fresh})
		}
		m.Pieces[len(m.Pieces)-1].Long++
	}
	return m
}

// taken are the blocks of the device where a stretch lies.
func (s spots) taken(from int, long int) []bool {
	out := make([]bool, impl.MaxBlocks)
	for _, x := range s[from : from+long] {
		if x != hole {
			out[x.at] = true
		}
	}
	return out
}

// mapped tells of each of the first blocks whether it lies anywhere.
func (s spots) mapped(blocks int) []bool {
	out := make([]bool, blocks)
	for i := range out {
		out[i] = s[i] != hole
	}
	return out
}

// hasRoomFor: such a piece is as said, and overlaps nothing.
func (s spots) hasRoomFor(p impl.Piece) bool {
	if p.Long < 1 || p.Long > 200 || p.From < 0 || p.From > 200-p.Long || p.At < 0 || p.At > 400-p.Long {
		return false
	}
	taken := s.taken(0, len(s))
	for i := range p.Long {
		if s[p.From+i] != hole || taken[p.At+i] {
			return false
		}
	}
	return true
}

func isStretchByTrial(from int, long int) bool {
	return from >= 0 && from <= 200 && long >= 0 && long <= 200 && from+long <= 200
}

func sameMap(a impl.FileMap, b impl.FileMap) bool {
	return slices.Equal(a.Pieces, b.Pieces)
}

// wantMap: the pieces are those, and good.
func wantMap(t *testing.T, what string, got impl.FileMap, ok bool, want impl.FileMap) {
	t.Helper()
	if !ok || !sameMap(got, want) || !impl.GoodMap(got) {
		t.Fatalf("%s: got %v %v, want %v", what, got, ok, want)
	}
}

func wantNoMap(t *testing.T, what string, got impl.FileMap, ok bool) {
	t.Helper()
	if ok || len(got.Pieces) != 0 {
		t.Fatalf("%s: got %v %v, want the zero answer", what, got, ok)
	}
}

func wantNotPunched(t *testing.T, what string, got impl.FileMap, gone []impl.Extent, ok bool) {
	t.Helper()
	wantNoMap(t, what, got, ok)
	wantNoExtents(t, what, gone, ok)
}

func wantNoExtents(t *testing.T, what string, got []impl.Extent, ok bool) {
	t.Helper()
	if ok || len(got) != 0 {
		t.Fatalf("%s: got %v %v, want the zero answer", what, got, ok)
	}
}

func wantSpot(t *testing.T, m impl.FileMap, n int, want spot) {
	t.Helper()
	if at, fresh, ok := impl.BlockAt(m, n); !ok || at != want.at || fresh != want.fresh {
		t.Fatalf("BlockAt %d of %v: got %d %v %v, want %v", n, m, at, fresh, ok, want)
	}
}

func wantNoSpot(t *testing.T, m impl.FileMap, n int) {
	t.Helper()
	if at, fresh, ok := impl.BlockAt(m, n); ok || at != 0 || fresh {
		t.Fatalf("BlockAt %d of %v: got %d %v %v, want the zero answer", n, m, at, fresh, ok)
	}
}

func wantMapSize(t *testing.T, m impl.FileMap, many int, fresh int) {
	t.Helper()
	if gotMany, gotFresh, ok := impl.MapSize(m); !ok || gotMany != many || gotFresh != fresh {
		t.Fatalf("MapSize of %v: got %d %d %v, want %d %d", m, gotMany, gotFresh, ok, many, fresh)
	}
}

// checkSpots: each block lies where it is told.
func checkSpots(t *testing.T, m impl.FileMap, s spots) {
	t.Helper()
	if !impl.GoodMap(m) {
		t.Fatalf("not good: %v", m)
	}
	for n, x := range s {
		wantSpot(t, m, n, x)
	}
}

// checkMap: all that is told of a map is what its blocks tell.
func checkMap(t *testing.T, m impl.FileMap, s spots) {
	t.Helper()
	checkSpots(t, m, s)
	blocks, ok := impl.BlocksOf(m)
	wantExtents(t, "BlocksOf", blocks, ok, extentsOf(s.taken(0, len(s)), true))
	many, fresh := 0, 0
	for _, x := range s {
		if x != hole {
			many++
		}
		if x.fresh {
			fresh++
		}
	}
	wantMapSize(t, m, many, fresh)
}

func checkHoles(t *testing.T, m impl.FileMap, s spots, blocks int) {
	t.Helper()
	holes, ok := impl.HolesOf(m, blocks)
	if blocks < 0 || blocks > 200 {
		wantNoExtents(t, "HolesOf", holes, ok)
		return
	}
	wantExtents(t, "HolesOf", holes, ok, extentsOf(s.mapped(blocks), false))
}

func checkMapPiece(t *testing.T, s spots, p impl.Piece) (impl.FileMap, bool) {
	t.Helper()
	got, ok := impl.MapPiece(s.laid(), p)
	if !s.hasRoomFor(p) || len(s.with(p).laid().Pieces) > 40 {
		wantNoMap(t, "MapPiece", got, ok)
		return got, false
	}
	wantMap(t, "MapPiece", got, ok, s.with(p).laid())
	return got, true
}

func checkPunch(t *testing.T, s spots, from int, long int) (impl.FileMap, bool) {
	t.Helper()
	got, gone, ok := impl.PunchMap(s.laid(), from, long)
	if !isStretchByTrial(from, long) || len(s.without(from, long).laid().Pieces) > 40 {
		wantNotPunched(t, "PunchMap", got, gone, ok)
		return got, false
	}
	wantMap(t, "PunchMap", got, ok, s.without(from, long).laid())
	wantExtents(t, "PunchMap", gone, ok, extentsOf(s.taken(from, long), true))
	return got, true
}

func checkTruncate(t *testing.T, s spots, blocks int) (impl.FileMap, bool) {
	t.Helper()
	got, gone, ok := impl.TruncateMap(s.laid(), blocks)
	if blocks < 0 || blocks > 200 {
		wantNotPunched(t, "TruncateMap", got, gone, ok)
		return got, false
	}
	wantMap(t, "TruncateMap", got, ok, s.without(blocks, 200-blocks).laid())
	wantExtents(t, "TruncateMap", gone, ok, extentsOf(s.taken(blocks, 200-blocks), true))
	return got, true
}

func checkWritten(t *testing.T, s spots, from int, long int) (impl.FileMap, bool) {
	t.Helper()
	got, ok := impl.WrittenMap(s.laid(), from, long)
	if !isStretchByTrial(from, long) || slices.Contains(s[from:from+long], hole) || len(s.written(from, long).laid().Pieces) > 40 {
		wantNoMap(t, "WrittenMap", got, ok)
		return got, false
	}
	wantMap(t, "WrittenMap", got, ok, s.written(from, long).laid())
	return got, true
}

// allSpots are all ways in which the first blocks of a file can lie in the first blocks of the device.
func allSpots(blocks int, device int) []spots {
	choices := []spot{hole}
	for at := range device {
		choices = append(choices, spot{at, false}, spot{at, true})
	}
	var l []spots
	for _, row := range rowsOf(blocks, choices...) {
		s := noSpots()
		copy(s, row)
		taken := 0
		for _, is := range s.taken(0, blocks) {
			if is {
				taken++
			}
		}
		if taken == blocks-len(slices.DeleteFunc(slices.Clone(row), func(x spot) bool { return x != hole })) {
			l = append(l, s)
		}
	}
	return l
}

func TestMapsOfFewBlocksInAllWays(t *testing.T) {
	const blocks, device = 3, 4
	all := allSpots(blocks, device)
	if len(all) != 1+24+144+192 {
		t.Fatalf("%d maps", len(all))
	}
	for _, s := range all {
		checkMap(t, s.laid(), s)
		for from := range blocks + 2 {
			checkTruncate(t, s, from)
			checkHoles(t, s.laid(), s, from)
			for long := range blocks + 2 {
				checkPunch(t, s, from, long)
				checkWritten(t, s, from, long)
				for at := range device + 1 {
					checkMapPiece(t, s, impl.Piece{From: from, Long: long, At: at})
					checkMapPiece(t, s, impl.Piece{From: from, Long: long, At: at, Fresh: true})
				}
			}
		}
	}
}

// someSpots lie in pieces of about so many blocks, some beside each other in the file or on the device or both.
func someSpots(s *steps, run int) spots {
	out := noSpots()
	for tries := range 40 + s.below(60) {
		long := 1 + s.below(run)
		p := impl.Piece{From: s.below(200), Long: long, At: s.below(400), Fresh: s.below(2) == 0}
		if tries > 0 && s.below(2) == 0 {
			p = besideSome(s, out, p)
		}
		if out.hasRoomFor(p) && len(out.with(p).laid().Pieces) <= 40 {
			out = out.with(p)
		}
	}
	return out
}

// besideSome goes on with a piece that is there, in the file, on the device or both, ahead of it or behind.
func besideSome(s *steps, of spots, p impl.Piece) impl.Piece {
	l := of.laid().Pieces
	if len(l) == 0 {
		return p
	}
	q := l[s.below(len(l))]
	kind, ahead := s.below(3), s.below(2) == 0
	from, at := q.From+q.Long, q.At+q.Long
	if ahead {
		from, at = q.From-p.Long, q.At-p.Long
	}
	if kind != 0 {
		p.From = from
	}
	if kind != 1 {
		p.At = at
	}
	return p
}

func TestMapsOfManyBlocks(t *testing.T) {
	s := steps(9)
	most := 0
	for range 150 {
		x := someSpots(&s, 1+s.below(12))
		m := x.laid()
		most = max(most, len(m.Pieces))
		checkMap(t, m, x)
		for range 10 {
			checkHoles(t, m, x, s.below(203)-1)
			checkTruncate(t, x, s.below(203)-1)
			checkPunch(t, x, s.below(202), s.below(20))
			checkPunch(t, x, s.below(202), s.below(202))
			checkWritten(t, x, s.below(202), s.below(4))
			p := impl.Piece{From: s.below(200), Long: 1 + s.below(4), At: s.below(400), Fresh: s.below(2) == 0}
			checkMapPiece(t, x, p)
			checkMapPiece(t, x, besideSome(&s, x, p))
		}
	}
	if most != 40 {
		t.Errorf("no map had more than %d pieces", most)
	}
}

// A map that is full, at each stretch: what makes no more pieces may be done.
func TestMapsThatAreFull(t *testing.T) {
	for _, fresh := range []bool{false, true} {
		for _, many := range []int{38, 39, 40} {
			s := spotsOf(spaced(many, fresh))
			for from := range 170 {
				for long := range 8 {
					checkPunch(t, s, from, long)
					checkWritten(t, s, from, long)
				}
				for long := 1; long <= 2; long++ {
					checkMapPiece(t, s, impl.Piece{From: from, Long: long, At: from + 100, Fresh: fresh})
					checkMapPiece(t, s, impl.Piece{From: from, Long: long, At: from + 100, Fresh: !fresh})
					checkMapPiece(t, s, impl.Piece{From: from, Long: long, At: from % 90, Fresh: fresh})
				}
			}
		}
	}
}

// A row of steps: behind each the map is good, what was mapped lies where it was told, what was punched is a hole, and all else lies as before.
func TestARowOfMapSteps(t *testing.T) {
	for seed := range 12 {
		s := steps(90 + seed)
		x := noSpots()
		var m impl.FileMap
		for range 150 {
			from, long := s.below(200), s.below(6)
			var now impl.FileMap
			var next spots
			did := false
			switch kind := s.below(10); {
			case kind < 5:
				p := besideSome(&s, x, impl.Piece{From: from, Long: 1 + long, At: s.below(400), Fresh: s.below(2) == 0})
				if now, did = checkMapPiece(t, x, p); did {
					next = x.with(p)
				}
			case kind < 7:
				if now, did = checkPunch(t, x, from, long); did {
					next = x.without(from, long)
				}
			case kind < 9:
				if now, did = checkWritten(t, x, from, long); did {
					next = x.written(from, long)
				}
			case s.below(8) == 0:
				if now, did = checkTruncate(t, x, from); did {
					next = x.without(from, 200-from)
				}
			}
			if did {
				x, m = next, now
				checkMap(t, m, x)
				checkHoles(t, m, x, 200)
			}
		}
	}
}

// What was punched can be mapped again, piece by piece, where it lay: all lies as before.
func TestWhatWasPunchedIsMappedAgain(t *testing.T) {
	s := steps(99)
	for range 200 {
		x := someSpots(&s, 1+s.below(12))
		m := x.laid()
		from := s.below(200)
		long := s.below(200 - from)
		punched, gone, ok := impl.PunchMap(m, from, long)
		if !ok {
			continue
		}
		many := 0
		for _, p := range x.without(0, from).without(from+long, 200-from-long).laid().Pieces {
			many += p.Long
			for _, one := range []impl.Piece{{From: p.From, Long: 1, At: p.At, Fresh: p.Fresh}, {From: p.From + 1, Long: p.Long - 1, At: p.At + 1, Fresh: p.Fresh}} {
				if next, ok := impl.MapPiece(punched, one); ok {
					punched = next
				}
			}
		}
		for _, e := range gone {
			many -= e.Long
		}
		if many != 0 {
			t.Fatalf("what lay there and what is told differ by %d", many)
		}
		wantMap(t, "mapped again", punched, true, m)
		checkSpots(t, punched, x)
	}
}

// Holes and mapped blocks are together all blocks of the file, each once.
func TestHolesAndPiecesAreAll(t *testing.T) {
	s := steps(98)
	for range 100 {
		m := someSpots(&s, 1+s.below(12)).laid()
		holes, ok := impl.HolesOf(m, 200)
		if !ok {
			t.Fatal("HolesOf is refused")
		}
		var times [200]int
		for _, h := range holes {
			for i := range h.Long {
				times[h.At+i]++
			}
		}
		for _, p := range m.Pieces {
			for i := range p.Long {
				times[p.From+i]++
			}
		}
		for n, many := range times {
			if many != 1 {
				t.Fatalf("block %d of %v is told %d times", n, m, many)
			}
		}
	}
}
