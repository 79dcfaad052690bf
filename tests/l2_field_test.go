package tests

import (
	"math"
	"slices"
	"testing"

	"loop.example/g00261/impl"
)

func wantNoByte(t *testing.T, what string, got byte, ok bool) {
	t.Helper()
	if ok || got != 0 {
		t.Errorf("%s: got %#x %v, want the zero answer", what, got, ok)
	}
}

func wantNoBytes(t *testing.T, what string, got []byte, ok bool) {
	t.Helper()
	if ok || len(got) != 0 {
		t.Errorf("%s: got %v %v, want the zero answer", what, got, ok)
	}
}

// countedBytes are 0, 1 and so on.
func countedBytes(n int) []byte {
	l := make([]byte, n)
	for i := range l {
		l[i] = byte(i)
	}
	return l
}

func TestFieldInvEdges(t *testing.T) {
	for _, l := range [][2]byte{{0, 0}, {1, 1}, {2, 0x8E}, {0x8E, 2}, {0xFF, 0xFD}} {
		if got := impl.FieldInv(l[0]); got != l[1] {
			t.Errorf("FieldInv of %#x: got %#x, want %#x", l[0], got, l[1])
		}
	}
}

func TestFieldDivEdges(t *testing.T) {
	for a := range 256 {
		got, ok := impl.FieldDiv(byte(a), 0)
		wantNoByte(t, "by 0", got, ok)
		got, ok = impl.FieldDiv(byte(a), 1)
		wantByte(t, "by 1", got, ok, byte(a))
	}
	for a := 1; a < 256; a++ {
		got, ok := impl.FieldDiv(0, byte(a))
		wantByte(t, "of 0", got, ok, 0)
		got, ok = impl.FieldDiv(byte(a), byte(a))
		wantByte(t, "by itself", got, ok, 1)
		got, ok = impl.FieldDiv(1, byte(a))
		wantByte(t, "of 1", got, ok, impl.FieldInv(byte(a)))
	}
	got, ok := impl.FieldDiv(0x1D, 0x80)
	wantByte(t, "0x1D by 0x80", got, ok, 2)
}

func TestFieldPowEdges(t *testing.T) {
	for a := range 256 {
		for _, n := range []int{-1, 10001, math.MinInt, math.MaxInt, -255, 1 << 32, 65536} {
			got, ok := impl.FieldPow(byte(a), n)
			wantNoByte(t, "FieldPow", got, ok)
		}
		got, ok := impl.FieldPow(byte(a), 0)
		wantByte(t, "no time", got, ok, 1)
		got, ok = impl.FieldPow(byte(a), 1)
		wantByte(t, "once", got, ok, byte(a))
		want := byte(1)
		for range 9999 {
			want = impl.FieldMul(want, byte(a))
		}
		got, ok = impl.FieldPow(byte(a), 9999)
		wantByte(t, "9999 times", got, ok, want)
		got, ok = impl.FieldPow(byte(a), 10000)
		wantByte(t, "10000 times", got, ok, impl.FieldMul(want, byte(a)))
	}
	for _, n := range []int{1, 2, 255, 256, 10000} {
		got, ok := impl.FieldPow(0, n)
		wantByte(t, "of 0", got, ok, 0)
	}
}

// wantPlaces: so many bytes, and those that are told at their places.
func wantPlaces(t *testing.T, l []byte, long int, places map[int]byte) {
	t.Helper()
	if len(l) != long {
		t.Fatalf("%d bytes, want %d", len(l), long)
	}
	for i, want := range places {
		if l[i] != want {
			t.Errorf("at %d: got %d, want %d", i, l[i], want)
		}
	}
}

func TestExpTableEdges(t *testing.T) {
	l := impl.ExpTable()
	wantPlaces(t, l, 255, map[int]byte{0: 1, 1: 2, 7: 0x80, 8: 0x1D, 9: 0x3A, 25: 3, 254: 0x8E})
	if slices.Contains(l, 0) {
		t.Error("0 is no power of 2")
	}
}

func TestLogTableEdges(t *testing.T) {
	wantPlaces(t, impl.LogTable(), 256, map[int]byte{0: 0, 1: 0, 2: 1, 3: 25, 0x1D: 8, 0x80: 7, 0x8E: 254})
}

func TestMaxPoly(t *testing.T) {
	if impl.MaxPoly != 60 {
		t.Errorf("MaxPoly is %d", impl.MaxPoly)
	}
}

func TestPolyAtEdges(t *testing.T) {
	for x := range 256 {
		got, ok := impl.PolyAt(nil, byte(x))
		wantByte(t, "no bytes", got, ok, 0)
		got, ok = impl.PolyAt([]byte{}, byte(x))
		wantByte(t, "no bytes", got, ok, 0)
		got, ok = impl.PolyAt([]byte{0xA7}, byte(x))
		wantByte(t, "one byte", got, ok, 0xA7)
		got, ok = impl.PolyAt([]byte{0, 1}, byte(x))
		wantByte(t, "x itself", got, ok, byte(x))
		last := make([]byte, impl.MaxPoly)
		last[impl.MaxPoly-1] = 1
		want, _ := impl.FieldPow(byte(x), impl.MaxPoly-1)
		got, ok = impl.PolyAt(last, byte(x))
		wantByte(t, "MaxPoly bytes", got, ok, want)
		for _, n := range []int{impl.MaxPoly + 1, 256, 100000} {
			got, ok = impl.PolyAt(make([]byte, n), byte(x))
			wantNoByte(t, "too many bytes", got, ok)
			got, ok = impl.PolyAt(slices.Repeat([]byte{1}, n), byte(x))
			wantNoByte(t, "too many bytes", got, ok)
		}
	}
	got, ok := impl.PolyAt([]byte{9, 8, 7}, 0)
	wantByte(t, "at 0", got, ok, 9)
	got, ok = impl.PolyAt([]byte{9, 8, 7}, 1)
	wantByte(t, "at 1", got, ok, 9^8^7)
	got, ok = impl.PolyAt([]byte{1, 2, 3}, 2)
	wantByte(t, "at 2", got, ok, 1^4^12)
}

func TestPolyThroughOfFewPoints(t *testing.T) {
	l, ok := impl.PolyThrough(nil, nil)
	wantBytes(t, "no points", l, ok, nil)
	l, ok = impl.PolyThrough([]byte{}, nil)
	wantBytes(t, "no points", l, ok, nil)
	l, ok = impl.PolyThrough([]byte{0}, []byte{7})
	wantBytes(t, "one point, at 0", l, ok, []byte{7})
	l, ok = impl.PolyThrough([]byte{200}, []byte{7})
	wantBytes(t, "one point", l, ok, []byte{7})
	l, ok = impl.PolyThrough([]byte{0, 1}, []byte{5, 6})
	wantBytes(t, "two points", l, ok, []byte{5, 3})
	l, ok = impl.PolyThrough([]byte{9, 8, 0}, []byte{4, 4, 4})
	wantBytes(t, "ys alike", l, ok, []byte{4, 0, 0})
	l, ok = impl.PolyThrough([]byte{3, 2, 1}, []byte{0, 0, 0})
	wantBytes(t, "all ys 0", l, ok, []byte{0, 0, 0})
	l, ok = impl.PolyThrough([]byte{0, 1, 2}, []byte{0, 1, 4})
	wantBytes(t, "squares", l, ok, []byte{0, 0, 1})
}

func TestPolyThroughOfTwentyPoints(t *testing.T) {
	xs := countedBytes(30)
	l, ok := impl.PolyThrough(xs[:20], slices.Repeat([]byte{1}, 20))
	wantBytes(t, "20 points", l, ok, append([]byte{1}, make([]byte, 19)...))
	ys := make([]byte, 30)
	for i, x := range xs {
		ys[i], _ = impl.FieldPow(x, 19)
	}
	l, ok = impl.PolyThrough(xs[:20], ys[:20])
	wantBytes(t, "x^19", l, ok, append(make([]byte, 19), 1))
	l, ok = impl.PolyThrough(xs[:21], ys[:21])
	wantNoBytes(t, "21 points", l, ok)
	l, ok = impl.PolyThrough(xs, ys)
	wantNoBytes(t, "30 points", l, ok)
	l, ok = impl.PolyThrough(countedBytes(256), make([]byte, 256))
	wantNoBytes(t, "all bytes", l, ok)
	l, ok = impl.PolyThrough(make([]byte, 100000), make([]byte, 100000))
	wantNoBytes(t, "100000 points", l, ok)
}

func TestPolyThroughOfUnlikeLengths(t *testing.T) {
	for n := range 24 {
		for m := range 24 {
			if n == m {
				continue
			}
			l, ok := impl.PolyThrough(countedBytes(n), make([]byte, m))
			wantNoBytes(t, "unlike lengths", l, ok)
		}
	}
}

func TestPolyThroughOfTwoXsAlike(t *testing.T) {
	for k := range 20 {
		for i := range k {
			xs, ys := countedBytes(20), countedBytes(20)
			xs[k], ys[k] = xs[i], 99
			l, ok := impl.PolyThrough(xs, ys)
			wantNoBytes(t, "two xs alike, their ys not", l, ok)
			ys[k] = ys[i]
			l, ok = impl.PolyThrough(xs, ys)
			wantNoBytes(t, "two points alike", l, ok)
			l, ok = impl.PolyThrough(xs, make([]byte, 20))
			wantNoBytes(t, "two xs alike, all ys 0", l, ok)
		}
	}
	l, ok := impl.PolyThrough([]byte{0, 0}, []byte{0, 0})
	wantNoBytes(t, "0 twice", l, ok)
}
