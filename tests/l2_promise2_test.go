package tests

import (
	"slices"
	"testing"

	"loop.example/g00261/impl"
)

// productOf multiplies two polynomials over bits and divides by 0x11D as by hand, the highest degree first.
func productOf(a byte, b byte) byte {
	p := 0
	for i := range 8 {
		for k := range 8 {
			if a>>i&1 == 1 && b>>k&1 == 1 {
				p ^= 1 << (i + k)
			}
		}
	}
	for degree := 14; degree >= 8; degree-- {
		if p>>degree&1 == 1 {
			p ^= 0x11D << (degree - 8)
		}
	}
	return byte(p)
}

// valueOf sums the powers of x one by one.
func valueOf(l []byte, x byte) byte {
	y, power := byte(0), byte(1)
	for _, c := range l {
		y ^= productOf(c, power)
		power = productOf(power, x)
	}
	return y
}

// someBytes need not be unlike.
func someBytes(s *steps, n int) []byte {
	l := make([]byte, n)
	for i := range l {
		l[i] = byte(s.below(256))
	}
	return l
}

// unlikeBytes has no two alike, in no order.
func unlikeBytes(s *steps, n int) []byte {
	l := make([]byte, 256)
	for i := range l {
		l[i] = byte(i)
	}
	for i := range n {
		k := i + s.below(256-i)
		l[i], l[k] = l[k], l[i]
	}
	return slices.Clone(l[:n])
}

func wantByte(t *testing.T, what string, got byte, ok bool, want byte) {
	t.Helper()
	if !ok || got != want {
		t.Errorf("%s: got %#x %v, want %#x", what, got, ok, want)
	}
}

func wantBytes(t *testing.T, what string, got []byte, ok bool, want []byte) {
	t.Helper()
	if !ok || !slices.Equal(got, want) {
		t.Errorf("%s: got %v %v, want %v", what, got, ok, want)
	}
}

func TestProductsOfAllBytes(t *testing.T) {
	for a := range 256 {
		for b := range 256 {
			if got, want := impl.FieldMul(byte(a), byte(b)), productOf(byte(a), byte(b)); got != want {
				t.Fatalf("%#x times %#x: got %#x, want %#x", a, b, got, want)
			}
		}
	}
}

func TestProductsByHand(t *testing.T) {
	for _, l := range [][3]byte{
		{0, 0, 0}, {0, 0xFF, 0}, {1, 0xFF, 0xFF}, {2, 0x40, 0x80}, {2, 0x80, 0x1D}, {4, 0x80, 0x3A},
		{0x80, 0x80, 0x13}, {3, 7, 9}, {0xFF, 2, 0xE3}, {0xFF, 0xFF, 0xE2},
	} {
		if got := impl.FieldMul(l[0], l[1]); got != l[2] {
			t.Errorf("%#x times %#x: got %#x, want %#x", l[0], l[1], got, l[2])
		}
	}
}

func TestBytesAreAField(t *testing.T) {
	for a := range 256 {
		for b := range 256 {
			x, y := byte(a), byte(b)
			if impl.FieldMul(x, y) != impl.FieldMul(y, x) {
				t.Fatalf("%#x and %#x: the order counts", x, y)
			}
			if impl.FieldMul(x, y) == 0 && x != 0 && y != 0 {
				t.Fatalf("%#x and %#x are divisors of 0", x, y)
			}
			z := byte(a*7 + b*13 + 5)
			if impl.FieldMul(x, impl.FieldMul(y, z)) != impl.FieldMul(impl.FieldMul(x, y), z) {
				t.Fatalf("%#x, %#x, %#x: what is multiplied first counts", x, y, z)
			}
			if impl.FieldMul(x, y^z) != impl.FieldMul(x, y)^impl.FieldMul(x, z) {
				t.Fatalf("%#x, %#x, %#x: a product of a sum is no sum of products", x, y, z)
			}
		}
	}
}

func TestEachByteButZeroHasAnInverse(t *testing.T) {
	for a := 1; a < 256; a++ {
		inv := impl.FieldInv(byte(a))
		if productOf(byte(a), inv) != 1 || impl.FieldMul(byte(a), inv) != 1 || impl.FieldMul(inv, byte(a)) != 1 {
			t.Errorf("%#x: %#x is no inverse", a, inv)
		}
		if impl.FieldInv(inv) != byte(a) {
			t.Errorf("%#x: not the inverse of its inverse", a)
		}
	}
}

func TestDivisionUndoesProducts(t *testing.T) {
	for a := range 256 {
		for b := 1; b < 256; b++ {
			got, ok := impl.FieldDiv(byte(a), byte(b))
			if !ok || productOf(got, byte(b)) != byte(a) {
				t.Fatalf("%#x by %#x: got %#x %v", a, b, got, ok)
			}
		}
	}
}

func TestPowersAreProducts(t *testing.T) {
	for a := range 256 {
		want := byte(1)
		for n := range 600 {
			got, ok := impl.FieldPow(byte(a), n)
			wantByte(t, "FieldPow", got, ok, want)
			want = productOf(want, byte(a))
		}
	}
}

func TestTablesAreEachOthersInverse(t *testing.T) {
	exp, log := impl.ExpTable(), impl.LogTable()
	if len(exp) != 255 || len(log) != 256 {
		t.Fatalf("lengths %d and %d", len(exp), len(log))
	}
	want := byte(1)
	for i, power := range exp {
		if power != want {
			t.Fatalf("ExpTable has %#x at %d, want %#x", power, i, want)
		}
		if int(log[power]) != i {
			t.Errorf("LogTable has %d at %#x, want %d", log[power], power, i)
		}
		got, ok := impl.FieldPow(2, i)
		wantByte(t, "FieldPow of 2", got, ok, power)
		want = productOf(want, 2)
	}
	for a := 1; a < 256; a++ {
		if exp[log[a]] != byte(a) {
			t.Errorf("ExpTable has %#x at the place of %#x", exp[log[a]], a)
		}
	}
	if log[0] != 0 {
		t.Errorf("LogTable has %d at 0", log[0])
	}
}

func TestPolyAtIsTheSumOfItsTerms(t *testing.T) {
	s := steps(20)
	for n := range impl.MaxPoly + 1 {
		l := someBytes(&s, n)
		for x := range 256 {
			got, ok := impl.PolyAt(l, byte(x))
			wantByte(t, "PolyAt", got, ok, valueOf(l, byte(x)))
		}
	}
}

func TestPolyThroughHasYsAtXs(t *testing.T) {
	s := steps(21)
	for n := range 21 {
		for range 40 {
			xs, ys := unlikeBytes(&s, n), someBytes(&s, n)
			l, ok := impl.PolyThrough(xs, ys)
			if !ok || len(l) != n {
				t.Fatalf("through %v, %v: got %v %v", xs, ys, l, ok)
			}
			for i, x := range xs {
				y, ok := impl.PolyAt(l, x)
				wantByte(t, "PolyAt", y, ok, ys[i])
				wantByte(t, "the sum of the terms", valueOf(l, x), true, ys[i])
			}
		}
	}
}

func TestAPolynomialComesBackFromItsValues(t *testing.T) {
	s := steps(22)
	for n := range 21 {
		for range 40 {
			want, xs := someBytes(&s, n), unlikeBytes(&s, n)
			if n > 0 && s.below(4) == 0 {
				clear(want[s.below(n):])
			}
			ys := make([]byte, n)
			for i, x := range xs {
				ys[i] = valueOf(want, x)
			}
			got, ok := impl.PolyThrough(xs, ys)
			wantBytes(t, "PolyThrough", got, ok, want)
		}
	}
}

// All lines there are: no two of them go through the same two points.
func TestThroughTwoPointsThereIsOneLine(t *testing.T) {
	for _, xs := range [][]byte{{0, 1}, {0x53, 0xCA}} {
		for a := range 256 {
			for b := range 256 {
				want := []byte{byte(a), byte(b)}
				got, ok := impl.PolyThrough(xs, []byte{valueOf(want, xs[0]), valueOf(want, xs[1])})
				if !ok || !slices.Equal(got, want) {
					t.Fatalf("at %v: got %v %v, want %v", xs, got, ok, want)
				}
			}
		}
	}
}

// The order in which the points are told does not count.
func TestPolyThroughOfPointsInAnyOrder(t *testing.T) {
	s := steps(23)
	for range 50 {
		n := 2 + s.below(19)
		xs, ys := unlikeBytes(&s, n), someBytes(&s, n)
		want, ok := impl.PolyThrough(xs, ys)
		if !ok {
			t.Fatal("PolyThrough")
		}
		i, k := s.below(n), s.below(n)
		xs[i], xs[k] = xs[k], xs[i]
		ys[i], ys[k] = ys[k], ys[i]
		got, ok := impl.PolyThrough(xs, ys)
		wantBytes(t, "PolyThrough in another order", got, ok, want)
	}
}
