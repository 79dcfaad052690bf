package tests

import (
	"slices"
	"testing"

	"loop.example/g00261/impl"
)

// roomyBytes has 77s behind its length.
func roomyBytes(l ...byte) []byte {
	out := slices.Concat(l, []byte{77, 77, 77})
	return out[:len(l):len(out)]
}

// wantRoomy also looks behind the list's length.
func wantRoomy(t *testing.T, what string, l []byte, want ...byte) {
	t.Helper()
	if len(l) != len(want) || cap(l) != len(want)+3 || !slices.Equal(l[:cap(l)], slices.Concat(want, []byte{77, 77, 77})) {
		t.Errorf("%s: written into: %v", what, l[:cap(l)])
	}
}

func TestTablesAreNewMemory(t *testing.T) {
	for what, table := range map[string]func() []byte{"ExpTable": impl.ExpTable, "LogTable": impl.LogTable} {
		had := slices.Clone(table())
		first, second := table(), table()
		spoil(first, 99)
		if !slices.Equal(second, had) || !slices.Equal(table(), had) {
			t.Errorf("%s hands its memory out twice", what)
		}
	}
	for i, want := range []byte{1, 2, 4, 8} {
		got, ok := impl.FieldPow(2, i)
		wantByte(t, "FieldPow after the tables were spoilt", got, ok, want)
	}
}

// A table that was spoilt spoils no other function.
func TestTheFieldOutlivesItsTables(t *testing.T) {
	spoil(impl.ExpTable(), 0)
	spoil(impl.LogTable(), 0)
	for a := 1; a < 256; a++ {
		if impl.FieldMul(byte(a), impl.FieldInv(byte(a))) != 1 {
			t.Fatalf("%#x has no inverse any more", a)
		}
	}
	if exp := impl.ExpTable(); exp[8] != 0x1D {
		t.Error(exp)
	}
	if log := impl.LogTable(); log[0x1D] != 8 {
		t.Error(log)
	}
}

func TestPolyAtWritesIntoNothing(t *testing.T) {
	l := roomyBytes(1, 2, 3)
	got, ok := impl.PolyAt(l, 2)
	wantByte(t, "PolyAt", got, ok, 1^4^12)
	wantRoomy(t, "PolyAt", l, 1, 2, 3)
	most := roomyBytes(make([]byte, impl.MaxPoly)...)
	got, ok = impl.PolyAt(most, 3)
	wantByte(t, "PolyAt of MaxPoly bytes with more behind", got, ok, 0)
	wantRoomy(t, "PolyAt of MaxPoly bytes", most, make([]byte, impl.MaxPoly)...)
	none := roomyBytes()
	got, ok = impl.PolyAt(none, 3)
	wantByte(t, "PolyAt of no bytes with more behind", got, ok, 0)
	wantRoomy(t, "PolyAt of no bytes", none)
	many := roomyBytes(make([]byte, impl.MaxPoly+1)...)
	got, ok = impl.PolyAt(many, 3)
	wantNoByte(t, "PolyAt of too many", got, ok)
	wantRoomy(t, "PolyAt of too many", many, make([]byte, impl.MaxPoly+1)...)
}

func TestPolyThroughAnswersNewMemory(t *testing.T) {
	xs, ys := roomyBytes(0, 1, 2), roomyBytes(0, 1, 4)
	got, ok := impl.PolyThrough(xs, ys)
	wantBytes(t, "PolyThrough", got, ok, []byte{0, 0, 1})
	wantRoomy(t, "PolyThrough: xs", xs, 0, 1, 2)
	wantRoomy(t, "PolyThrough: ys", ys, 0, 1, 4)
	if slices.Contains(got[:cap(got)], 77) {
		t.Error("bytes from behind the length")
	}
	spoil(xs, 99)
	spoil(ys, 99)
	wantBytes(t, "PolyThrough, its arguments spoilt", got, ok, []byte{0, 0, 1})
	xs, ys = roomyBytes(3), roomyBytes(4)
	got, _ = impl.PolyThrough(xs, ys)
	spoil(got, 99)
	wantRoomy(t, "PolyThrough, its answer spoilt: xs", xs, 3)
	wantRoomy(t, "PolyThrough, its answer spoilt: ys", ys, 4)
	again, ok := impl.PolyThrough(xs, ys)
	wantBytes(t, "PolyThrough again", again, ok, []byte{4})
}

// The xs behind the length are alike to those ahead; they are none.
func TestPolyThroughReadsNothingBehind(t *testing.T) {
	xs := []byte{77, 5, 77, 5}
	got, ok := impl.PolyThrough(xs[:2], roomyBytes(6, 6))
	wantBytes(t, "PolyThrough", got, ok, []byte{6, 0})
	l, ok := impl.PolyThrough(xs[:2], roomyBytes(6))
	wantNoBytes(t, "a y behind the length", l, ok)
	l, ok = impl.PolyThrough(roomyBytes(6), xs[:2])
	wantNoBytes(t, "an x behind the length", l, ok)
}

func TestPolyThroughOfOneListTwice(t *testing.T) {
	l := roomyBytes(9, 0, 200, 3)
	got, ok := impl.PolyThrough(l, l)
	wantBytes(t, "x itself", got, ok, []byte{0, 1, 0, 0})
	wantRoomy(t, "x itself", l, 9, 0, 200, 3)
	spoil(got, 99)
	wantRoomy(t, "x itself, the answer spoilt", l, 9, 0, 200, 3)
}

func TestPolyThroughRefusesAndWritesNothing(t *testing.T) {
	for _, l := range [][2][]byte{
		{{1, 2, 1}, {5, 6, 7}},
		{{1, 2, 3}, {5, 6}},
		{{1, 2}, {5, 6, 7}},
		{countedBytes(21), countedBytes(21)},
	} {
		xs, ys := roomyBytes(l[0]...), roomyBytes(l[1]...)
		got, ok := impl.PolyThrough(xs, ys)
		wantNoBytes(t, "PolyThrough", got, ok)
		wantRoomy(t, "refused: xs", xs, l[0]...)
		wantRoomy(t, "refused: ys", ys, l[1]...)
	}
}
