package tests

import (
	"math"
	"slices"
	"strings"
	"testing"

	"loop.example/g00261/impl"
)

// badDevices are not as said, each in one way.
func badDevices() []impl.Device {
	short := newDevice(2, write(0, 'a'))
	short.Sectors[1] = "1234567"
	long := newDevice(2, write(0, 'a'))
	long.Sectors[0] = "123456789"
	return []impl.Device{
		{}, {Sectors: []string{}}, {Sectors: []string{""}}, short, long,
		{Pending: []impl.Write{write(0, 'a')}},
		newDevice(impl.MaxSectors+1, write(0, 'a')),
		newDevice(2, manyWrites(impl.MaxPending+1, 2)...),
		newDevice(2, write(-1, 'a')), newDevice(2, write(2, 'a')),
		newDevice(2, write(math.MinInt, 'a')), newDevice(2, write(math.MaxInt, 'a')),
		newDevice(2, impl.Write{Sector: 0, Data: "1234567"}),
		newDevice(2, impl.Write{Sector: 0, Data: "123456789"}),
		newDevice(2, impl.Write{Sector: 0, Data: strings.Repeat("x", 100000)}),
		newDevice(2, impl.Write{Sector: -1}),
	}
}

func TestBadDevicesAreRefused(t *testing.T) {
	for _, d := range badDevices() {
		if impl.GoodDevice(d) {
			t.Errorf("%#v is good", d)
		}
		got, ok := impl.WriteSector(d, write(0, 'a'))
		wantNoDevice(t, "WriteSector", got, ok)
		got, ok = impl.FlushDevice(d)
		wantNoDevice(t, "FlushDevice", got, ok)
		for _, keep := range [][]bool{make([]bool, len(d.Pending)), slices.Repeat([]bool{true}, len(d.Pending)), {true}, nil} {
			got, ok = impl.CrashDevice(d, keep)
			wantNoDevice(t, "CrashDevice", got, ok)
		}
		for _, i := range []int{0, 1, -1, impl.MaxSectors, math.MaxInt, math.MinInt} {
			s, ok := impl.ReadSector(d, i)
			wantNoSector(t, "ReadSector", s, ok)
			s, ok = impl.SafeSector(d, i)
			wantNoSector(t, "SafeSector", s, ok)
		}
		if l, ok := impl.DirtyOf(d); ok || len(l) != 0 {
			t.Errorf("DirtyOf: got %v %v, want the zero answer", l, ok)
		}
	}
}

// roomy is a device whose lists have room behind their length, with writes and texts in it that are none of the device's.
func roomy() impl.Device {
	sectors := []string{sectorOf('1'), sectorOf('2'), sectorOf('3'), "behind", "behind"}
	pending := []impl.Write{write(1, 'a'), write(0, 'b'), write(1, 'c'), {Sector: 77, Data: "behind"}, {Sector: 78, Data: "behind"}}
	return impl.Device{Sectors: sectors[:3], Pending: pending[:3]}
}

// wantUntouched also looks behind the lists' length.
func wantUntouched(t *testing.T, what string, d impl.Device) {
	t.Helper()
	want := roomy()
	if len(d.Sectors) != 3 || len(d.Pending) != 3 || cap(d.Sectors) != 5 || cap(d.Pending) != 5 {
		t.Fatalf("%s: other lists", what)
	}
	if !slices.Equal(d.Sectors[:5], want.Sectors[:5]) || !slices.Equal(d.Pending[:5], want.Pending[:5]) {
		t.Errorf("%s: written into: %#v", what, d)
	}
}

// spoil writes into all that a list has, also behind its length.
func spoil[T any](l []T, x T) {
	l = l[:cap(l)]
	for i := range l {
		l[i] = x
	}
}

// wantApart: what the answer has at its whole capacity is its own, and nothing from behind the argument's length.
func wantApart(t *testing.T, what string, d impl.Device, answer impl.Device) {
	t.Helper()
	wantUntouched(t, what, d)
	if slices.Contains(answer.Sectors[:cap(answer.Sectors)], "behind") {
		t.Errorf("%s: a sector from behind the length", what)
	}
	for _, w := range answer.Pending[:cap(answer.Pending)] {
		if w.Data == "behind" {
			t.Errorf("%s: a write from behind the length", what)
		}
	}
	held := impl.Device{Sectors: slices.Clone(answer.Sectors), Pending: slices.Clone(answer.Pending)}
	spoil(answer.Sectors, "spoilt")
	spoil(answer.Pending, impl.Write{Sector: 9, Data: "spoilt"})
	wantUntouched(t, what+", the answer spoilt", d)
	copy(answer.Sectors, held.Sectors)
	copy(answer.Pending, held.Pending)
	spoil(d.Sectors, "spoilt")
	spoil(d.Pending, impl.Write{Sector: 9, Data: "spoilt"})
	if !sameDevice(answer, held) {
		t.Errorf("%s: the answer changed with the argument", what)
	}
}

func TestDeviceAnswersAreNewMemory(t *testing.T) {
	d := roomy()
	got, ok := impl.WriteSector(d, write(2, 'd'))
	wantDevice(t, "WriteSector", got, ok, impl.Device{Sectors: roomy().Sectors, Pending: append(slices.Clone(roomy().Pending), write(2, 'd'))})
	wantApart(t, "WriteSector", d, got)

	d = roomy()
	got, ok = impl.FlushDevice(d)
	wantDevice(t, "FlushDevice", got, ok, impl.Device{Sectors: []string{sectorOf('b'), sectorOf('c'), sectorOf('3')}})
	wantApart(t, "FlushDevice", d, got)

	for bits := range 8 {
		d = roomy()
		kept, keep := keptOf(d.Pending, bits)
		had := slices.Clone(keep)
		got, ok = impl.CrashDevice(d, keep)
		wantDevice(t, "CrashDevice", got, ok, impl.Device{Sectors: doneOn(roomy().Sectors, kept)})
		wantApart(t, "CrashDevice", d, got)
		if !slices.Equal(keep, had) {
			t.Error("CrashDevice wrote into the keeps")
		}
	}
}

// A device with nothing to do is still copied.
func TestAFlushOfNothingIsNewMemory(t *testing.T) {
	for _, do := range []func(impl.Device) (impl.Device, bool){
		impl.FlushDevice,
		func(d impl.Device) (impl.Device, bool) { return impl.CrashDevice(d, nil) },
	} {
		d := newDevice(2)
		got, ok := do(d)
		wantDevice(t, "nothing to do", got, ok, newDevice(2))
		got.Sectors[0] = "spoilt"
		if !sameDevice(d, newDevice(2)) {
			t.Error("the argument changed with the answer")
		}
	}
}

// Two writes onto one device do not meet in the room behind its pending ones.
func TestTwoWritesOntoOneDevice(t *testing.T) {
	d := roomy()
	a, okA := impl.WriteSector(d, write(0, 'x'))
	b, okB := impl.WriteSector(d, write(0, 'y'))
	if !okA || !okB || a.Pending[3] != write(0, 'x') || b.Pending[3] != write(0, 'y') {
		t.Errorf("%#v %#v", a, b)
	}
}

func TestQuestionsWriteIntoNoDevice(t *testing.T) {
	d := roomy()
	impl.GoodDevice(d)
	wantUntouched(t, "GoodDevice", d)
	for i := -1; i <= 3; i++ {
		impl.ReadSector(d, i)
		impl.SafeSector(d, i)
	}
	wantUntouched(t, "ReadSector, SafeSector", d)
	l, ok := impl.DirtyOf(d)
	if !ok || !slices.Equal(l, []int{0, 1}) {
		t.Error(l, ok)
	}
	spoil(l, 9)
	if l, _ = impl.DirtyOf(d); !slices.Equal(l, []int{0, 1}) {
		t.Error("DirtyOf keeps its answer", l)
	}
	wantUntouched(t, "DirtyOf", d)
}

func TestRefusalsWriteIntoNothing(t *testing.T) {
	d := roomy()
	impl.WriteSector(d, write(3, 'x'))
	impl.WriteSector(d, impl.Write{Sector: 0, Data: "1234567"})
	impl.CrashDevice(d, []bool{true, true})
	impl.CrashDevice(d, []bool{true, true, true, true})
	wantUntouched(t, "refused", d)
}

func TestPlayAndNewShareNothing(t *testing.T) {
	l := []impl.Write{write(0, 'a'), {Sector: -1}, write(1, 'b'), write(0, 'c'), write(1, 'z'), write(1, 'z')}
	had := slices.Clone(l)
	got, ok := impl.PlayDevice(2, l[:4])
	want := newDevice(2, write(1, 'b'), write(0, 'c'))
	want.Sectors[0] = sectorOf('a')
	wantDevice(t, "PlayDevice", got, ok, want)
	spoil(l, write(1, 'q'))
	wantDevice(t, "PlayDevice, its argument spoilt", got, ok, want)
	copy(l, had)
	spoil(got.Sectors, "spoilt")
	spoil(got.Pending, write(1, 'q'))
	if !slices.Equal(l, had) {
		t.Error("PlayDevice's answer shares memory with its argument")
	}
	a, _ := impl.NewDevice(3)
	spoil(a.Sectors, "spoilt")
	b, ok := impl.NewDevice(3)
	wantDevice(t, "NewDevice after another was spoilt", b, ok, newDevice(3))
}
