package tests

import (
	"math"
	"testing"

	"loop.example/g00261/impl"
)

func TestConstantsOfMaps(t *testing.T) {
	if impl.MaxPieces != 40 || impl.MaxFileBlocks != 200 {
		t.Error("MaxPieces and MaxFileBlocks are not 40 and 200")
	}
}

func TestGoodMaps(t *testing.T) {
	if !impl.GoodMap(impl.FileMap{}) || !impl.GoodMap(impl.FileMap{Pieces: []impl.Piece{}}) {
		t.Error("a map of no pieces is not good")
	}
	if !impl.GoodMap(spaced(impl.MaxPieces, false)) || !impl.GoodMap(spaced(impl.MaxPieces, true)) {
		t.Error("MaxPieces are not good")
	}
	for _, text := range goodMapTexts() {
		if !impl.GoodMap(mapIn(text)) || !goodMapByTrial(mapIn(text)) {
			t.Errorf("%s is not good", text)
		}
	}
}

func TestMapsThatAreNotGood(t *testing.T) {
	if impl.GoodMap(spaced(impl.MaxPieces+1, false)) {
		t.Error("one more than MaxPieces is good")
	}
	for _, text := range []string{
		"0+0@0", "5+0@7*", "5+-1@7", "-1+1@0", "-1+2@0", "200+1@0", "199+2@0", "0+201@0", "1+200@0",
		"0+1@-1", "0+2@-1", "0+1@400", "0+4@397", "0+200@201",
		"0+3@0 0+3@10", "3+1@0 3+2@10", // alike in From
		"5+1@0 3+1@10", "8+2@0 0+2@10 4+2@20", // falling
		"0+3@0 2+3@10", "0+9@0 3+1@20", "0+3@0 1+2@10 7+1@20", // overlapping in the file
		"0+3@10 5+3@12", "0+3@10 5+3@8", "0+3@10 5+3@10", "0+9@10 20+1@13", "0+1@13 20+9@10", // on the device
		"0+2@10 4+2@20 8+2@11", "0+2@10 4+2@20 8+2@21", // on the device, not beside each other
		"0+3@10 3+2@13", "0+3@10* 3+2@13*", "0+1@0 5+1@5 6+1@6", "0+1@0 1+199@1", // going on, Fresh alike
	} {
		if impl.GoodMap(mapIn(text)) {
			t.Errorf("%s is good", text)
		}
	}
	for _, n := range []int{math.MaxInt, math.MaxInt - 1, math.MinInt, math.MinInt + 1} {
		for _, p := range []impl.Piece{
			{From: n, Long: 1}, {From: 1, Long: n}, {Long: 1, At: n}, {From: n, Long: n}, {Long: n, At: n}, {From: 200, Long: n, At: 400},
			{From: n, Long: math.MaxInt}, {From: n, Long: math.MinInt}, {Long: math.MaxInt, At: n}, {From: n, Long: n, At: n},
		} {
			if impl.GoodMap(impl.FileMap{Pieces: []impl.Piece{p}}) || impl.GoodMap(impl.FileMap{Pieces: []impl.Piece{{Long: 1}, p}}) {
				t.Errorf("%v is good", p)
			}
		}
	}
}

func TestBlockAtTheEdges(t *testing.T) {
	m := mapIn("0+2@30 2+3@10* 7+1@0 198+2@398*")
	for n, want := range map[int]spot{
		0: {30, false}, 1: {31, false}, 2: {10, true}, 3: {11, true}, 4: {12, true}, 5: hole, 6: hole,
		7: {0, false}, 8: hole, 197: hole, 198: {398, true}, 199: {399, true},
	} {
		wantSpot(t, m, n, want)
	}
	for _, n := range []int{0, 1, 100, impl.MaxFileBlocks - 1} {
		wantSpot(t, impl.FileMap{}, n, hole)
	}
	for _, n := range []int{-1, impl.MaxFileBlocks, -2, impl.MaxFileBlocks + 1} {
		wantNoSpot(t, m, n)
		wantNoSpot(t, impl.FileMap{}, n)
	}
}

func TestMapPieceByHand(t *testing.T) {
	for _, c := range []struct {
		what string
		from string
		come string
		want string
	}{
		{"the first one", "", "5+2@7", "5+2@7"},
		{"all of the file", "", "0+200@200*", "0+200@200*"},
		{"ahead of others", "5+2@7 9+1@0", "1+2@20", "1+2@20 5+2@7 9+1@0"},
		{"between others", "0+2@7 9+1@0", "3+2@20*", "0+2@7 3+2@20* 9+1@0"},
		{"behind others", "0+2@7 9+1@0", "10+2@20", "0+2@7 9+1@0 10+2@20"},
		{"joined with the one ahead", "0+2@7 9+1@0", "2+3@9", "0+5@7 9+1@0"},
		{"joined with the one behind", "0+2@7 9+1@20", "6+3@17", "0+2@7 6+4@17"},
		{"joined with both", "0+2@7 5+4@12 20+1@0", "2+3@9", "0+9@7 20+1@0"},
		{"joined with both, Fresh", "0+2@7* 5+4@12*", "2+3@9*", "0+9@7*"},
		{"joined with the one ahead alone, as Fresh is not alike", "0+2@7 5+4@12*", "2+3@9", "0+5@7 5+4@12*"},
		{"joined with the one behind alone, as Fresh is not alike", "0+2@7 5+4@12*", "2+3@9*", "0+2@7 2+7@9*"},
		{"joined with neither, as Fresh is not alike", "0+2@7 5+4@12", "2+3@9*", "0+2@7 2+3@9* 5+4@12"},
		{"going on in the file alone", "0+2@7 5+4@30", "2+3@20", "0+2@7 2+3@20 5+4@30"},
		{"going on on the device alone", "0+2@7 6+4@12", "3+2@9", "0+2@7 3+2@9 6+4@12"},
		{"going on the other way round on the device", "0+2@7", "2+2@5", "0+2@7 2+2@5"},
		{"at the ends of file and device", "0+1@0", "199+1@399", "0+1@0 199+1@399"},
	} {
		got, ok := impl.MapPiece(mapIn(c.from), mapIn(c.come).Pieces[0])
		wantMap(t, c.what, got, ok, mapIn(c.want))
	}
}

func TestMapPieceIsRefused(t *testing.T) {
	for _, come := range []string{
		"4+2@90", "5+1@90", "5+4@90", "6+1@90", "8+1@90", "8+2@90", "3+9@90", "3+30@90", "0+6@90", // blocks of the file
		"30+1@20", "30+1@23", "30+2@19", "30+2@23", "30+9@18", "30+2@21", "100+1@61", "1+1@62", // blocks of the device alone
		"5+4@20", "5+4@20*", "6+2@21", // what is there
		"0+0@90", "0+-1@90", "-1+1@90", "-1+2@90", "200+1@90", "199+2@90", "0+1@-1", "0+1@400", "0+3@398", "0+201@90",
	} {
		got, ok := impl.MapPiece(mapIn("5+4@20 12+3@60*"), mapIn(come).Pieces[0])
		wantNoMap(t, come, got, ok)
	}
	for _, p := range []impl.Piece{{}, {From: 1, Long: math.MaxInt}, {From: math.MaxInt, Long: 1}, {From: math.MinInt, Long: 1}, {Long: 1, At: math.MaxInt}, {Long: math.MinInt}} {
		got, ok := impl.MapPiece(impl.FileMap{}, p)
		wantNoMap(t, "not as said", got, ok)
	}
}

func TestMapPieceOfAFullMap(t *testing.T) {
	full := spaced(impl.MaxPieces, false)
	for _, come := range []string{"170+1@0", "3+1@0", "3+1@103*", "163+1@0"} {
		got, ok := impl.MapPiece(full, mapIn(come).Pieces[0])
		wantNoMap(t, "one more than MaxPieces", got, ok)
		got, ok = impl.MapPiece(spaced(impl.MaxPieces-1, false), mapIn(come).Pieces[0])
		if !ok || len(got.Pieces) != impl.MaxPieces {
			t.Errorf("%s: MaxPieces are not met: %v %v", come, got, ok)
		}
	}
	for come, many := range map[string]int{"3+1@103": impl.MaxPieces - 1, "159+9@259": impl.MaxPieces, "155+1@255": impl.MaxPieces - 1} {
		got, ok := impl.MapPiece(full, mapIn(come).Pieces[0])
		if !ok || len(got.Pieces) != many || !impl.GoodMap(got) {
			t.Errorf("%s: got %v %v", come, got, ok)
		}
	}
	// The room ahead of the second one is wider: what comes there is joined with it alone.
	full.Pieces[0].Long = 2
	got, ok := impl.MapPiece(full, piece("3+1@103"))
	if !ok || len(got.Pieces) != impl.MaxPieces || got.Pieces[1] != piece("3+4@103") {
		t.Errorf("joined with the one behind: got %v %v", got, ok)
	}
}

func TestPunchMapByHand(t *testing.T) {
	from := "0+4@10 4+3@30* 9+2@0"
	for _, c := range []struct {
		what string
		from int
		long int
		want string
		gone []impl.Extent
	}{
		{"nothing, at the front", 0, 0, from, nil},
		{"nothing, inside a piece", 2, 0, from, nil},
		{"nothing, between two pieces", 4, 0, from, nil},
		{"nothing, in a hole", 8, 0, from, nil},
		{"nothing, behind the last block", 200, 0, from, nil},
		{"all", 0, 200, "", extents(0, 2, 10, 4, 30, 3)},
		{"all that is there", 0, 11, "", extents(0, 2, 10, 4, 30, 3)},
		{"the middle of a piece", 1, 2, "0+1@10 3+1@13 4+3@30* 9+2@0", extents(11, 2)},
		{"the middle of a Fresh piece", 5, 1, "0+4@10 4+1@30* 6+1@32* 9+2@0", extents(31, 1)},
		{"the front of a piece", 0, 1, "1+3@11 4+3@30* 9+2@0", extents(10, 1)},
		{"the end of a piece", 6, 1, "0+4@10 4+2@30* 9+2@0", extents(32, 1)},
		{"the ends of two pieces", 3, 2, "0+3@10 5+2@31* 9+2@0", extents(13, 1, 30, 1)},
		{"the ends of two pieces and the hole between", 6, 4, "0+4@10 4+2@30* 10+1@1", extents(0, 1, 32, 1)},
		{"from the middle of one to that of another", 1, 9, "0+1@10 10+1@1", extents(0, 1, 11, 3, 30, 3)},
		{"one piece", 4, 3, "0+4@10 9+2@0", extents(30, 3)},
		{"a hole", 7, 2, from, nil},
		{"a part of a hole", 50, 100, from, nil},
		{"the last block of the file", 199, 1, from, nil},
	} {
		got, gone, ok := impl.PunchMap(mapIn(from), c.from, c.long)
		wantMap(t, c.what, got, ok, mapIn(c.want))
		wantExtents(t, c.what, gone, ok, c.gone)
	}
}

// The order on the device is another than in the file, and there two pieces go on that do not in the file.
func TestPunchMapTellsPlacesByTheirOrder(t *testing.T) {
	m := mapIn("0+2@30 2+2@20 4+2@22* 10+2@0 20+2@32*")
	for _, c := range []struct {
		from int
		long int
		want string
		gone []impl.Extent
	}{
		{0, 200, "", extents(0, 2, 20, 4, 30, 4)},
		{0, 4, "4+2@22* 10+2@0 20+2@32*", extents(20, 2, 30, 2)},
		{1, 4, "0+1@30 5+1@23* 10+2@0 20+2@32*", extents(20, 3, 31, 1)},
		{3, 2, "0+2@30 2+1@20 5+1@23* 10+2@0 20+2@32*", extents(21, 2)},
		{1, 20, "0+1@30 21+1@33*", extents(0, 2, 20, 4, 31, 2)},
		{0, 21, "21+1@33*", extents(0, 2, 20, 4, 30, 3)},
	} {
		got, gone, ok := impl.PunchMap(m, c.from, c.long)
		wantMap(t, "PunchMap", got, ok, mapIn(c.want))
		wantExtents(t, "PunchMap", gone, ok, c.gone)
	}
}

func TestPunchMapOfAFullMap(t *testing.T) {
	full := spaced(impl.MaxPieces, false)
	for _, from := range []int{1, 5, 157} {
		got, gone, ok := impl.PunchMap(full, from, 1)
		wantNotPunched(t, "a piece of a full map cut into two", got, gone, ok)
		got, gone, ok = impl.PunchMap(full, from, 0)
		wantMap(t, "cut, and nothing punched", got, ok, full)
		wantExtents(t, "cut, and nothing punched", gone, ok, nil)
		got, gone, ok = impl.PunchMap(full, from, 2)
		wantExtents(t, "the end of a piece of a full map", gone, ok, extents(100+from, 2))
		if len(got.Pieces) != impl.MaxPieces {
			t.Errorf("%d pieces", len(got.Pieces))
		}
	}
	got, gone, ok := impl.PunchMap(spaced(impl.MaxPieces-1, true), 1, 1)
	wantExtents(t, "up to MaxPieces", gone, ok, extents(101, 1))
	if len(got.Pieces) != impl.MaxPieces {
		t.Errorf("%d pieces", len(got.Pieces))
	}
}

func TestPunchMapOfNoStretch(t *testing.T) {
	for _, x := range [][2]int{
		{-1, 0}, {-1, 1}, {-1, 2}, {0, -1}, {5, -1}, {200, -1}, {201, 0}, {201, -1}, {200, 1}, {0, 201}, {1, 200}, {199, 2},
		{math.MaxInt, math.MaxInt}, {math.MaxInt, 1}, {1, math.MaxInt}, {math.MinInt, 1}, {0, math.MinInt}, {math.MinInt, math.MinInt}, {math.MaxInt, 0}, {math.MinInt, math.MaxInt},
	} {
		for _, text := range []string{"", "0+4@10*", "0+200@0*"} {
			got, gone, ok := impl.PunchMap(mapIn(text), x[0], x[1])
			wantNotPunched(t, "PunchMap", got, gone, ok)
			written, ok := impl.WrittenMap(mapIn(text), x[0], x[1])
			wantNoMap(t, "WrittenMap", written, ok)
		}
	}
}

func TestWrittenMapByHand(t *testing.T) {
	for _, c := range []struct {
		what string
		text string
		from int
		long int
		want string
	}{
		{"nothing", "2+4@10*", 3, 0, "2+4@10*"},
		{"nothing, in a hole", "2+4@10*", 0, 0, "2+4@10*"},
		{"nothing, of no pieces", "", 7, 0, ""},
		{"nothing, behind the last block", "2+4@10*", 200, 0, "2+4@10*"},
		{"all of a Fresh piece", "2+4@10*", 2, 4, "2+4@10"},
		{"all of the file", "0+200@0*", 0, 200, "0+200@0"},
		{"the front of a Fresh piece", "2+4@10*", 2, 1, "2+1@10 3+3@11*"},
		{"the end of a Fresh piece", "2+4@10*", 4, 2, "2+2@10* 4+2@12"},
		{"the middle of a Fresh piece", "2+4@10*", 3, 2, "2+1@10* 3+2@11 5+1@13*"},
		{"one that is joined with the one ahead then", "0+2@8 2+4@10*", 2, 1, "0+3@8 3+3@11*"},
		{"one that is joined with the one behind then", "2+4@10* 6+2@14", 5, 1, "2+3@10* 5+3@13"},
		{"one that is joined with both then", "0+2@8 2+4@10* 6+2@14", 2, 4, "0+8@8"},
		{"one whose neighbours lie elsewhere", "0+2@0 2+4@10* 6+2@20", 2, 4, "0+2@0 2+4@10 6+2@20"},
		{"blocks that are not Fresh", "2+4@10", 3, 2, "2+4@10"},
		{"blocks of which some are not Fresh", "0+2@8 2+4@10* 6+2@14", 1, 6, "0+8@8"},
		{"Fresh ones behind others", "0+2@8 2+4@10* 6+2@14", 0, 3, "0+3@8 3+3@11* 6+2@14"},
		{"over pieces that lie elsewhere", "0+2@50* 2+2@30* 4+2@10*", 1, 4, "0+1@50* 1+1@51 2+2@30 4+1@10 5+1@11*"},
		{"other pieces stay Fresh", "0+2@50* 4+2@10* 8+2@20*", 4, 2, "0+2@50* 4+2@10 8+2@20*"},
	} {
		got, ok := impl.WrittenMap(mapIn(c.text), c.from, c.long)
		wantMap(t, c.what, got, ok, mapIn(c.want))
	}
}

func TestHolesAreNotWritten(t *testing.T) {
	m := mapIn("2+4@10* 7+2@20 9+1@0*")
	for _, x := range [][2]int{{0, 1}, {1, 1}, {1, 2}, {0, 9}, {5, 2}, {6, 1}, {6, 2}, {5, 3}, {2, 6}, {9, 2}, {10, 1}, {0, 200}, {199, 1}, {10, 190}} {
		got, ok := impl.WrittenMap(m, x[0], x[1])
		wantNoMap(t, "a hole among them", got, ok)
	}
	got, ok := impl.WrittenMap(impl.FileMap{}, 0, 1)
	wantNoMap(t, "of no pieces", got, ok)
}

func TestWrittenMapOfAFullMap(t *testing.T) {
	for _, c := range []struct {
		many int
		from int
		long int
		now  int
	}{
		{40, 0, 3, 40}, {40, 0, 1, 0}, {40, 2, 1, 0}, {40, 1, 1, 0}, {40, 156, 3, 40}, {40, 157, 2, 0}, {40, 1, 0, 40},
		{39, 0, 1, 40}, {39, 2, 1, 40}, {39, 1, 1, 0}, {38, 1, 1, 40},
	} {
		got, ok := impl.WrittenMap(spaced(c.many, true), c.from, c.long)
		if c.now == 0 {
			wantNoMap(t, "more than MaxPieces", got, ok)
			continue
		}
		if !ok || len(got.Pieces) != c.now {
			t.Errorf("%v: %d %v", c, len(got.Pieces), ok)
		}
	}
	full := spaced(39, true)
	full.Pieces[7].Long, full.Pieces[7].Fresh = 4, false
	full.Pieces = append(full.Pieces, piece("180+9@0"))
	got, ok := impl.WrittenMap(full, 32, 2)
	if !ok || len(got.Pieces) != impl.MaxPieces || got.Pieces[7] != piece("28+6@128") || got.Pieces[8] != piece("34+1@134*") {
		t.Error("cut, and joined with the one ahead", got, ok)
	}
}

func TestTruncateMap(t *testing.T) {
	from := "0+4@10 4+3@0* 9+2@14"
	for blocks, c := range map[int]struct {
		want string
		gone []impl.Extent
	}{
		0: {"", extents(0, 3, 10, 6)}, 1: {"0+1@10", extents(0, 3, 11, 5)}, 4: {"0+4@10", extents(0, 3, 14, 2)},
		5: {"0+4@10 4+1@0*", extents(1, 2, 14, 2)}, 8: {"0+4@10 4+3@0*", extents(14, 2)}, 10: {"0+4@10 4+3@0* 9+1@14", extents(15, 1)},
		11: {from, nil}, 100: {from, nil}, 199: {from, nil}, 200: {from, nil},
	} {
		got, gone, ok := impl.TruncateMap(mapIn(from), blocks)
		wantMap(t, "TruncateMap", got, ok, mapIn(c.want))
		wantExtents(t, "TruncateMap", gone, ok, c.gone)
	}
	for _, blocks := range []int{-1, 201, math.MaxInt, math.MinInt} {
		got, gone, ok := impl.TruncateMap(mapIn(from), blocks)
		wantNotPunched(t, "TruncateMap", got, gone, ok)
	}
	got, gone, ok := impl.TruncateMap(spaced(impl.MaxPieces, false), 158)
	wantExtents(t, "TruncateMap of a full map", gone, ok, extents(258, 1))
	if len(got.Pieces) != impl.MaxPieces {
		t.Errorf("%d pieces", len(got.Pieces))
	}
	got, gone, ok = impl.TruncateMap(mapIn("0+200@0*"), 199)
	wantMap(t, "TruncateMap by the last block", got, ok, mapIn("0+199@0*"))
	wantExtents(t, "TruncateMap by the last block", gone, ok, extents(199, 1))
}

func TestHolesOf(t *testing.T) {
	for _, c := range []struct {
		text   string
		blocks int
		want   []impl.Extent
	}{
		{"", 0, nil}, {"", 1, extents(0, 1)}, {"", 200, extents(0, 200)},
		{"0+3@9", 0, nil}, {"0+3@9", 2, nil}, {"0+3@9", 3, nil}, {"0+3@9", 4, extents(3, 1)}, {"0+3@9", 200, extents(3, 197)},
		{"2+3@9*", 0, nil}, {"2+3@9*", 1, extents(0, 1)}, {"2+3@9*", 2, extents(0, 2)}, {"2+3@9*", 3, extents(0, 2)}, {"2+3@9*", 5, extents(0, 2)},
		{"2+3@9*", 6, extents(0, 2, 5, 1)}, {"2+3@9*", 200, extents(0, 2, 5, 195)},
		{"1+2@9 3+1@11* 6+2@0", 200, extents(0, 1, 4, 2, 8, 192)}, {"1+2@9 3+1@30 6+2@0", 5, extents(0, 1, 4, 1)}, {"1+2@9 3+1@30 6+2@0", 7, extents(0, 1, 4, 2)},
		{"199+1@0", 200, extents(0, 199)}, {"199+1@0", 199, extents(0, 199)}, {"0+200@0", 200, nil}, {"0+200@0", 50, nil},
	} {
		got, ok := impl.HolesOf(mapIn(c.text), c.blocks)
		wantExtents(t, "HolesOf "+c.text, got, ok, c.want)
	}
	for _, blocks := range []int{-1, 201, math.MaxInt, math.MinInt} {
		for _, text := range []string{"", "0+3@9", "0+200@0"} {
			got, ok := impl.HolesOf(mapIn(text), blocks)
			wantNoExtents(t, "HolesOf", got, ok)
		}
	}
}

func TestBlocksOf(t *testing.T) {
	for text, want := range map[string][]impl.Extent{
		"": nil, "0+3@9": extents(9, 3), "0+200@200*": extents(200, 200),
		"0+2@50 2+2@30* 4+2@10": extents(10, 2, 30, 2, 50, 2), // rising in the file, falling on the device
		"0+2@50 5+2@52 9+2@10":  extents(10, 2, 50, 4),        // joined on the device, not in the file
		"0+2@50 5+2@52*":        extents(50, 4),
		"0+2@52 5+2@50":         extents(50, 4),
		"0+2@54 2+2@52 4+2@50*": extents(50, 6),
		"0+2@50* 2+2@52":        extents(50, 4), // Fresh and not
		"0+1@399 1+1@0":         extents(0, 1, 399, 1),
		"0+1@10 1+1@12 2+1@14":  extents(10, 1, 12, 1, 14, 1),
	} {
		got, ok := impl.BlocksOf(mapIn(text))
		wantExtents(t, "BlocksOf "+text, got, ok, want)
	}
}

func TestMapSize(t *testing.T) {
	for text, want := range map[string][2]int{
		"": {0, 0}, "0+3@9": {3, 0}, "0+3@9*": {3, 3}, "0+3@9 3+2@12* 7+1@0* 9+4@20": {10, 3}, "0+200@0": {200, 0}, "0+200@0*": {200, 200}, "0+1@0* 1+199@1": {200, 1},
	} {
		wantMapSize(t, mapIn(text), want[0], want[1])
	}
	wantMapSize(t, spaced(impl.MaxPieces, true), 120, 120)
}
