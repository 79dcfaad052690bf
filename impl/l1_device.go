package impl

const MaxSectors = 32
const SectorSize = 8
const MaxPending = 60

const maxPlayed = 200

type Write struct {
	Sector int
	Data   string
}

type Device struct {
	Sectors []string
	Pending []Write
}

// sectorBytes is a sector as a value: == holds all its bytes against another's at once, and no two share memory.
type sectorBytes [SectorSize]byte

func NewDevice(sectors int) (Device, bool) {
	if sectors < 1 || sectors > MaxSectors {
		return Device{}, false
	}
	var blank sectorBytes
	l := make([]string, sectors)
	for i := range l {
		l[i] = string(blank[:])
	}
	return Device{Sectors: l}, true
}

func GoodDevice(d Device) bool {
	if len(d.Sectors) < 1 || len(d.Sectors) > MaxSectors || len(d.Pending) > MaxPending {
		return false
	}
	for _, s := range d.Sectors {
		if len(s) != SectorSize {
			return false
		}
	}
	for _, w := range d.Pending {
		if !fitsDevice(w, len(d.Sectors)) {
			return false
		}
	}
	return true
}

func WriteSector(d Device, w Write) (Device, bool) {
	if !GoodDevice(d) || !fitsDevice(w, len(d.Sectors)) || len(d.Pending) == MaxPending {
		return Device{}, false
	}
	// Not append to what came in: that could write behind its length.
	pending := make([]Write, len(d.Pending)+1)
	copy(pending, d.Pending)
	pending[len(d.Pending)] = w
	return Device{Sectors: copyList(d.Sectors), Pending: pending}, true
}

func ReadSector(d Device, sector int) (string, bool) {
	flushed, ok := FlushDevice(d)
	if !ok {
		return "", false
	}
	return SafeSector(flushed, sector)
}

func FlushDevice(d Device) (Device, bool) {
	if !GoodDevice(d) {
		return Device{}, false
	}
	return settleWrites(d, d.Pending), true
}

func CrashDevice(d Device, keep []bool) (Device, bool) {
	if !GoodDevice(d) || len(keep) != len(d.Pending) {
		return Device{}, false
	}
	var kept []Write
	for i, w := range d.Pending {
		if keep[i] {
			kept = append(kept, w)
		}
	}
	return settleWrites(d, kept), true
}

func SafeSector(d Device, sector int) (string, bool) {
	if !GoodDevice(d) || sector < 0 || sector >= len(d.Sectors) {
		return "", false
	}
	return d.Sectors[sector], true
}

func PlayDevice(sectors int, l []Write) (Device, bool) {
	if len(l) > maxPlayed {
		return Device{}, false
	}
	d, ok := NewDevice(sectors)
	for i := 0; ok && i < len(l); i++ {
		d, ok = playWrite(d, l[i])
	}
	return d, ok
}

func DirtyOf(d Device) ([]int, bool) {
	if !GoodDevice(d) {
		return nil, false
	}
	var dirty [MaxSectors]bool
	for _, w := range d.Pending {
		dirty[w.Sector] = true
	}
	var l []int
	for i, is := range dirty {
		if is {
			l = append(l, i)
		}
	}
	return l, true
}

func fitsDevice(w Write, sectors int) bool {
	return w.Sector >= 0 && w.Sector < sectors && len(w.Data) == SectorSize
}

func playWrite(d Device, w Write) (Device, bool) {
	if w == (Write{Sector: -1}) {
		return FlushDevice(d)
	}
	return WriteSector(d, w)
}

// settleWrites takes a good device and writes that fit it. A sector that comes out with the bytes it had keeps its text.
func settleWrites(d Device, writes []Write) Device {
	out := copyList(d.Sectors)
	for _, w := range writes {
		next := bytesOfSector(w.Data)
		if next != bytesOfSector(out[w.Sector]) {
			out[w.Sector] = string(next[:])
		}
	}
	return Device{Sectors: out}
}

func bytesOfSector(s string) sectorBytes {
	var b sectorBytes
	copy(b[:], s)
	return b
}

// copyList answers no more room than the list has members, so that nothing behind its length is handed out.
func copyList[T any](l []T) []T {
	out := make([]T, len(l))
	copy(out, l)
	return out
}
