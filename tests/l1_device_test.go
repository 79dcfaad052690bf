package tests

import (
	"math"
	"slices"
	"strings"
	"testing"

	"loop.example/g00261/impl"
)

const blankSector = "\x00\x00\x00\x00\x00\x00\x00\x00"

// sectorOf is a whole sector of one byte.
func sectorOf(c byte) string {
	return strings.Repeat(string([]byte{c}), impl.SectorSize)
}

func write(sector int, c byte) impl.Write {
	return impl.Write{Sector: sector, Data: sectorOf(c)}
}

// manyWrites has no two writes of the same data side by side.
func manyWrites(many int, sectors int) []impl.Write {
	l := make([]impl.Write, many)
	for i := range l {
		l[i] = write(i%sectors, byte('A'+i%50))
	}
	return l
}

// newDevice is made by hand, so that a test of it does not lean on NewDevice.
func newDevice(sectors int, pending ...impl.Write) impl.Device {
	d := impl.Device{Pending: pending}
	for range sectors {
		d.Sectors = append(d.Sectors, blankSector)
	}
	return d
}

func sameDevice(a, b impl.Device) bool {
	return slices.Equal(a.Sectors, b.Sectors) && slices.Equal(a.Pending, b.Pending)
}

func wantDevice(t *testing.T, what string, got impl.Device, ok bool, want impl.Device) {
	t.Helper()
	if !ok || !sameDevice(got, want) {
		t.Errorf("%s: got %#v %v, want %#v true", what, got, ok, want)
	}
}

func wantNoDevice(t *testing.T, what string, got impl.Device, ok bool) {
	t.Helper()
	if ok || !sameDevice(got, impl.Device{}) {
		t.Errorf("%s: got %#v %v, want the zero answer", what, got, ok)
	}
}

func wantSector(t *testing.T, what string, got string, ok bool, want string) {
	t.Helper()
	if !ok || got != want {
		t.Errorf("%s: got %q %v, want %q true", what, got, ok, want)
	}
}

func wantNoSector(t *testing.T, what string, got string, ok bool) {
	t.Helper()
	if ok || got != "" {
		t.Errorf("%s: got %q %v, want the zero answer", what, got, ok)
	}
}

func TestDeviceLimits(t *testing.T) {
	if impl.MaxSectors != 32 || impl.SectorSize != 8 || impl.MaxPending != 60 {
		t.Error(impl.MaxSectors, impl.SectorSize, impl.MaxPending)
	}
}

func TestNewDeviceOfEachSize(t *testing.T) {
	for n := 1; n <= impl.MaxSectors; n++ {
		d, ok := impl.NewDevice(n)
		wantDevice(t, "NewDevice", d, ok, newDevice(n))
		if !impl.GoodDevice(d) {
			t.Errorf("NewDevice of %d is not good", n)
		}
	}
	for _, n := range []int{0, -1, impl.MaxSectors + 1, 1000000, math.MaxInt, math.MinInt} {
		d, ok := impl.NewDevice(n)
		wantNoDevice(t, "NewDevice", d, ok)
	}
}

func TestGoodDevice(t *testing.T) {
	short, long := strings.Repeat("x", impl.SectorSize-1), strings.Repeat("x", impl.SectorSize+1)
	with := func(at int, s string) impl.Device {
		d := newDevice(3)
		d.Sectors[at] = s
		return d
	}
	cases := []struct {
		what string
		d    impl.Device
		good bool
	}{
		{"the zero device", impl.Device{}, false},
		{"no sectors", newDevice(0), false},
		{"no sectors, a write", newDevice(0, write(0, 'a')), false},
		{"one sector", newDevice(1), true},
		{"as many sectors as may be", newDevice(impl.MaxSectors), true},
		{"one sector too many", newDevice(impl.MaxSectors + 1), false},
		{"any bytes", with(1, "\xff\x00\n\xc3\x28 az"), true},
		{"the first sector short", with(0, short), false},
		{"the last sector short", with(2, short), false},
		{"a sector long", with(1, long), false},
		{"a sector empty", with(1, ""), false},
		{"as many pending as may be", newDevice(3, manyWrites(impl.MaxPending, 3)...), true},
		{"one pending too many", newDevice(3, manyWrites(impl.MaxPending+1, 3)...), false},
		{"pending at both ends", newDevice(3, write(0, 'a'), write(2, 'b')), true},
		{"pending below", newDevice(3, write(0, 'a'), write(-1, 'b')), false},
		{"pending beyond", newDevice(3, write(3, 'a'), write(0, 'b')), false},
		{"pending far below", newDevice(3, write(math.MinInt, 'a')), false},
		{"pending far beyond", newDevice(3, write(math.MaxInt, 'a')), false},
		{"pending beyond these, within the most", newDevice(1, write(1, 'a')), false},
		{"pending short", newDevice(3, impl.Write{Sector: 1, Data: short}), false},
		{"pending long", newDevice(3, impl.Write{Sector: 1, Data: long}), false},
		{"pending empty", newDevice(3, impl.Write{Sector: 1}), false},
		{"pending a flush", newDevice(3, impl.Write{Sector: -1}), false},
	}
	for _, c := range cases {
		if got := impl.GoodDevice(c.d); got != c.good {
			t.Errorf("%s: %v", c.what, got)
		}
	}
}

func TestWriteSectorStandsBehindAllPending(t *testing.T) {
	d := newDevice(3)
	for i, w := range []impl.Write{write(2, 'a'), write(0, 'b'), write(2, 'a'), write(1, 0)} {
		want := newDevice(3, append(slices.Clone(d.Pending), w)...)
		got, ok := impl.WriteSector(d, w)
		wantDevice(t, "WriteSector", got, ok, want)
		if len(got.Pending) != i+1 {
			t.Fatal(len(got.Pending))
		}
		d = got
	}
}

func TestWriteSectorRoom(t *testing.T) {
	d := newDevice(4, manyWrites(impl.MaxPending-1, 4)...)
	full, ok := impl.WriteSector(d, write(3, 'z'))
	wantDevice(t, "the last write with room", full, ok, newDevice(4, append(manyWrites(impl.MaxPending-1, 4), write(3, 'z'))...))
	over, ok := impl.WriteSector(full, write(3, 'z'))
	wantNoDevice(t, "one more", over, ok)
}

func TestWriteSectorRefuses(t *testing.T) {
	for _, w := range []impl.Write{
		write(-1, 'a'), write(2, 'a'), write(math.MaxInt, 'a'), write(math.MinInt, 'a'),
		{Sector: 0}, {Sector: -1}, {Sector: 0, Data: "1234567"}, {Sector: 0, Data: "123456789"},
	} {
		d, ok := impl.WriteSector(newDevice(2), w)
		wantNoDevice(t, "WriteSector", d, ok)
	}
	for _, n := range []int{0, 1} {
		d, ok := impl.WriteSector(newDevice(2), write(n, 'a'))
		wantDevice(t, "WriteSector", d, ok, newDevice(2, write(n, 'a')))
	}
}

func TestSectorsByNumber(t *testing.T) {
	for _, n := range []int{1, 2, impl.MaxSectors} {
		d := newDevice(n)
		for i := range d.Sectors {
			d.Sectors[i] = sectorOf(byte('a' + i))
		}
		for i := range n {
			s, ok := impl.SafeSector(d, i)
			wantSector(t, "SafeSector", s, ok, sectorOf(byte('a'+i)))
			s, ok = impl.ReadSector(d, i)
			wantSector(t, "ReadSector", s, ok, sectorOf(byte('a'+i)))
		}
		for _, i := range []int{-1, n, n + 1, math.MaxInt, math.MinInt} {
			s, ok := impl.SafeSector(d, i)
			wantNoSector(t, "SafeSector", s, ok)
			s, ok = impl.ReadSector(d, i)
			wantNoSector(t, "ReadSector", s, ok)
		}
	}
}

func TestCrashWantsAsManyKeeps(t *testing.T) {
	for _, many := range []int{0, 1, 2, 7, impl.MaxPending} {
		d := newDevice(3, manyWrites(many, 3)...)
		got, ok := impl.CrashDevice(d, make([]bool, many))
		wantDevice(t, "as many keeps", got, ok, newDevice(3))
		got, ok = impl.CrashDevice(d, make([]bool, many+1))
		wantNoDevice(t, "one more", got, ok)
		if many > 0 {
			got, ok = impl.CrashDevice(d, make([]bool, many-1))
			wantNoDevice(t, "one fewer", got, ok)
			got, ok = impl.CrashDevice(d, nil)
			wantNoDevice(t, "no keeps", got, ok)
		}
	}
	got, ok := impl.CrashDevice(newDevice(2), nil)
	wantDevice(t, "no keeps, nothing pending", got, ok, newDevice(2))
}

func TestDirtyOf(t *testing.T) {
	top := impl.MaxSectors - 1
	cases := []struct {
		d    impl.Device
		want []int
	}{
		{newDevice(3), nil},
		{newDevice(1, write(0, 'a')), []int{0}},
		{newDevice(3, write(2, 'a'), write(0, 'b'), write(2, 'c'), write(0, 'b')), []int{0, 2}},
		{newDevice(3, write(1, 0)), []int{1}}, // pending, though it changes nothing
		{newDevice(impl.MaxSectors, write(top, 'a'), write(10, 'b'), write(9, 'c'), write(0, 'd')), []int{0, 9, 10, top}},
	}
	for _, c := range cases {
		if got, ok := impl.DirtyOf(c.d); !ok || !slices.Equal(got, c.want) {
			t.Errorf("%#v: got %v %v, want %v true", c.d, got, ok, c.want)
		}
	}
}

func TestPlayDevice(t *testing.T) {
	flush := impl.Write{Sector: -1}
	d, ok := impl.PlayDevice(2, nil)
	wantDevice(t, "no writes", d, ok, newDevice(2))
	d, ok = impl.PlayDevice(2, []impl.Write{flush, flush})
	wantDevice(t, "flushes alone", d, ok, newDevice(2))
	d, ok = impl.PlayDevice(2, []impl.Write{write(1, 'a'), write(1, 'b'), flush, write(0, 'c'), write(1, 'd')})
	want := newDevice(2, write(0, 'c'), write(1, 'd'))
	want.Sectors[1] = sectorOf('b')
	wantDevice(t, "writes and a flush", d, ok, want)
	for _, n := range []int{0, -1, impl.MaxSectors + 1} {
		d, ok = impl.PlayDevice(n, nil)
		wantNoDevice(t, "so many sectors", d, ok)
	}
}

func TestPlayDeviceRefusesAsTheStepsDo(t *testing.T) {
	flush := impl.Write{Sector: -1}
	for _, w := range []impl.Write{
		write(-1, 'a'), {Sector: -1, Data: "a"}, {Sector: -2}, {Sector: 0}, {Sector: 2}, write(2, 'a'), write(-2, 'a'),
		{Sector: 1, Data: "1234567"}, {Sector: 1, Data: "123456789"},
	} {
		for _, l := range [][]impl.Write{{w}, {write(0, 'a'), w, flush}, {w, write(0, 'a')}, {write(0, 'a'), flush, w}} {
			d, ok := impl.PlayDevice(2, l)
			wantNoDevice(t, "PlayDevice", d, ok)
		}
	}
	d, ok := impl.PlayDevice(5, manyWrites(impl.MaxPending, 5))
	wantDevice(t, "as many pending as may be", d, ok, newDevice(5, manyWrites(impl.MaxPending, 5)...))
	d, ok = impl.PlayDevice(5, manyWrites(impl.MaxPending+1, 5))
	wantNoDevice(t, "one pending too many", d, ok)
	d, ok = impl.PlayDevice(5, append(manyWrites(impl.MaxPending+1, 5), flush))
	wantNoDevice(t, "one pending too many, then a flush", d, ok)
}

func TestPlayDeviceOfTwoHundredWrites(t *testing.T) {
	l := make([]impl.Write, 201)
	for i := range l {
		l[i] = write(i%3, byte('A'+i%50))
		if i%50 == 49 {
			l[i] = impl.Write{Sector: -1}
		}
	}
	d, ok := impl.PlayDevice(3, l[:200])
	want := newDevice(3)
	want.Sectors = []string{l[198].Data, l[196].Data, l[197].Data}
	wantDevice(t, "200 writes", d, ok, want)
	d, ok = impl.PlayDevice(3, l)
	wantNoDevice(t, "201 writes", d, ok)
	flushes := make([]impl.Write, 201)
	for i := range flushes {
		flushes[i] = impl.Write{Sector: -1}
	}
	d, ok = impl.PlayDevice(3, flushes[:200])
	wantDevice(t, "200 flushes", d, ok, newDevice(3))
	d, ok = impl.PlayDevice(3, flushes)
	wantNoDevice(t, "201 flushes", d, ok)
}
