package tests

import (
	"slices"
	"testing"

	"loop.example/g00261/impl"
)

// doneOn does writes on a model of a device: an array of texts, each write in its order.
func doneOn(sectors []string, l []impl.Write) []string {
	out := slices.Clone(sectors)
	for _, w := range l {
		out[w.Sector] = w.Data
	}
	return out
}

// keptOf is the writes whose bit is 1, and the keeps that say so.
func keptOf(l []impl.Write, bits int) ([]impl.Write, []bool) {
	var kept []impl.Write
	keep := make([]bool, len(l))
	for i, w := range l {
		keep[i] = bits>>i&1 == 1
		if keep[i] {
			kept = append(kept, w)
		}
	}
	return kept, keep
}

// steps is a row of numbers that is the same in each run.
type steps uint32

func (s *steps) below(n int) int {
	*s = *s*1664525 + 1013904223
	return int(*s>>8) % n
}

// someDevice has unlike sectors and pending writes, many of them to one sector.
func someDevice(s *steps, sectors int, pending int) impl.Device {
	d := newDevice(sectors)
	for i := range d.Sectors {
		d.Sectors[i] = sectorOf(byte(s.below(256)))
	}
	for range pending {
		d.Pending = append(d.Pending, write(s.below(sectors), byte(s.below(256))))
	}
	return d
}

func TestCrashKeepsWhateverItKeeps(t *testing.T) {
	before := []string{sectorOf('1'), sectorOf('2'), sectorOf('3')}
	pending := []impl.Write{write(0, 'a'), write(1, 'b'), write(0, 'c'), write(0, '1'), write(1, 'b'), write(0, 'd')}
	for bits := range 1 << len(pending) {
		kept, keep := keptOf(pending, bits)
		d := impl.Device{Sectors: slices.Clone(before), Pending: slices.Clone(pending)}
		got, ok := impl.CrashDevice(d, keep)
		wantDevice(t, "CrashDevice", got, ok, impl.Device{Sectors: doneOn(before, kept)})
		if !impl.GoodDevice(got) {
			t.Errorf("not good after the crash %v", keep)
		}
	}
}

func TestWhatWasFlushedIsThereAfterAnyCrash(t *testing.T) {
	flushed, ok := impl.PlayDevice(4, []impl.Write{write(0, 'a'), write(3, 'b'), write(0, 'c'), {Sector: -1}})
	if !ok {
		t.Fatal("PlayDevice")
	}
	later := []impl.Write{write(1, 'd'), write(2, 'e'), write(1, 'f'), write(2, 0), write(1, 'd')}
	d := flushed
	for _, w := range later {
		if d, ok = impl.WriteSector(d, w); !ok {
			t.Fatal("WriteSector")
		}
	}
	for bits := range 1 << len(later) {
		_, keep := keptOf(later, bits)
		got, ok := impl.CrashDevice(d, keep)
		if !ok {
			t.Fatalf("crash %v", keep)
		}
		for i, want := range []string{0: sectorOf('c'), 3: sectorOf('b')} {
			if want == "" {
				continue
			}
			s, ok := impl.SafeSector(got, i)
			wantSector(t, "SafeSector", s, ok, want)
			s, ok = impl.ReadSector(got, i)
			wantSector(t, "ReadSector", s, ok, want)
		}
	}
}

func TestACrashAfterAFlushLosesNothing(t *testing.T) {
	s := steps(1)
	for range 100 {
		d := someDevice(&s, 1+s.below(impl.MaxSectors), s.below(impl.MaxPending+1))
		flushed, ok := impl.FlushDevice(d)
		want := impl.Device{Sectors: doneOn(d.Sectors, d.Pending)}
		wantDevice(t, "FlushDevice", flushed, ok, want)
		crashed, ok := impl.CrashDevice(flushed, nil)
		wantDevice(t, "CrashDevice", crashed, ok, want)
		again, ok := impl.FlushDevice(flushed)
		wantDevice(t, "FlushDevice again", again, ok, want)
	}
}

func TestReadTellsWhatWillBeSafeWhatIs(t *testing.T) {
	s := steps(2)
	for range 100 {
		d := someDevice(&s, 1+s.below(6), s.below(impl.MaxPending+1))
		will := doneOn(d.Sectors, d.Pending)
		for i := range d.Sectors {
			got, ok := impl.ReadSector(d, i)
			wantSector(t, "ReadSector", got, ok, will[i])
			got, ok = impl.SafeSector(d, i)
			wantSector(t, "SafeSector", got, ok, d.Sectors[i])
		}
	}
}

func TestWritesToOneSectorAreDoneInOrder(t *testing.T) {
	d, ok := impl.PlayDevice(1, []impl.Write{write(0, 'z'), write(0, 'a'), write(0, 'm')})
	if !ok {
		t.Fatal("PlayDevice")
	}
	got, ok := impl.ReadSector(d, 0)
	wantSector(t, "ReadSector", got, ok, sectorOf('m'))
	got, ok = impl.SafeSector(d, 0)
	wantSector(t, "SafeSector", got, ok, blankSector)
	crashed, _ := impl.CrashDevice(d, []bool{true, true, false})
	got, ok = impl.SafeSector(crashed, 0)
	wantSector(t, "the last of the kept ones", got, ok, sectorOf('a'))
	crashed, _ = impl.CrashDevice(d, []bool{true, false, false})
	got, ok = impl.SafeSector(crashed, 0)
	wantSector(t, "the one that is kept", got, ok, sectorOf('z'))
}

func TestAllBytesOfASectorCount(t *testing.T) {
	for i := range impl.SectorSize {
		b := []byte(blankSector)
		b[i] = 0x80
		d, ok := impl.FlushDevice(newDevice(1, impl.Write{Sector: 0, Data: string(b)}))
		wantDevice(t, "FlushDevice", d, ok, impl.Device{Sectors: []string{string(b)}})
	}
}

func TestCrashOfAllAndOfNone(t *testing.T) {
	s := steps(3)
	for range 50 {
		d := someDevice(&s, 1+s.below(impl.MaxSectors), s.below(impl.MaxPending+1))
		all := slices.Repeat([]bool{true}, len(d.Pending))
		got, ok := impl.CrashDevice(d, all)
		wantDevice(t, "all kept", got, ok, impl.Device{Sectors: doneOn(d.Sectors, d.Pending)})
		got, ok = impl.CrashDevice(d, make([]bool, len(d.Pending)))
		wantDevice(t, "none kept", got, ok, impl.Device{Sectors: d.Sectors})
	}
}

// A device that was played is what its steps, one by one, make of a new one.
func TestPlayIsItsSteps(t *testing.T) {
	s := steps(4)
	for range 60 {
		sectors := 1 + s.below(impl.MaxSectors)
		var l []impl.Write
		want := newDevice(sectors)
		for range s.below(201) {
			if s.below(20) == 0 || len(want.Pending) == impl.MaxPending {
				l = append(l, impl.Write{Sector: -1})
				want = impl.Device{Sectors: doneOn(want.Sectors, want.Pending)}
				continue
			}
			w := write(s.below(sectors), byte(s.below(256)))
			l = append(l, w)
			want.Pending = append(want.Pending, w)
		}
		got, ok := impl.PlayDevice(sectors, l)
		wantDevice(t, "PlayDevice", got, ok, want)
	}
}
