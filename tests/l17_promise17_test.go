package tests

import (
	"fmt"
	"maps"
	"slices"
	"strings"
	"testing"

	"loop.example/g00261/impl"
)

// parcel is a file whose blocks are told one by one.
type parcel struct {
	size  int
	spots spots
}

// estate is a system whose blocks are told one by one, those of the device and those of its files.
type estate struct {
	head  int
	free  []bool
	files map[string]parcel
}

// heldIn reads a file: its name, its Size, and its pieces as mapIn does.
func heldIn(text string) impl.Held {
	words := strings.Fields(text)
	return impl.Held{Name: words[0], Size: numberIn(words[1]), Map: mapIn(strings.Join(words[2:], " "))}
}

// systemIn reads Head, blocks as freeIn does, and each file behind a '|'.
func systemIn(text string) impl.System {
	parts := strings.Split(text, "|")
	head, blocks, _ := strings.Cut(strings.TrimSpace(parts[0]), " ")
	s := impl.System{Head: numberIn(head), Room: freeIn(blocks)}
	for _, part := range parts[1:] {
		s.Files = append(s.Files, heldIn(part))
	}
	return s
}

// estateOf lays out a system that is known to be good.
func estateOf(s impl.System) estate {
	e := estate{head: s.Head, free: make([]bool, s.Room.Blocks), files: map[string]parcel{}}
	for _, x := range s.Room.ByPlace {
		e.free = withBlocks(e.free, x, true)
	}
	for _, f := range s.Files {
		e.files[f.Name] = parcel{f.Size, spotsOf(f.Map)}
	}
	return e
}

func estateIn(text string) estate {
	return estateOf(systemIn(text))
}

func (e estate) names() []string {
	return slices.Sorted(maps.Keys(e.files))
}

func (e estate) laid() impl.System {
	s := impl.System{Head: e.head, Room: freeOf(e.free)}
	for _, name := range e.names() {
		f := e.files[name]
		s.Files = append(s.Files, impl.Held{Name: name, Size: f.size, Map: f.spots.laid()})
	}
	return s
}

func (e estate) with(name string, f parcel) estate {
	e.files = maps.Clone(e.files)
	e.files[name] = f
	return e
}

func (e estate) without(name string) estate {
	e.files = maps.Clone(e.files)
	delete(e.files, name)
	return e
}

// owners asks of each block the head, the free ones and each file.
func (e estate) owners() []int {
	held := make([]int, len(e.free))
	for _, f := range e.files {
		for block, is := range f.spots.taken(0, 200) {
			if is && block < len(held) {
				held[block]++
			}
		}
	}
	l := make([]int, len(e.free))
	for block, files := range held {
		l[block] = ownerByTrial(block < e.head, e.free[block], files)
	}
	return l
}

func ownerByTrial(isHead bool, isFree bool, files int) int {
	switch {
	case !isHead && !isFree && files == 0:
		return 5
	case isHead && !isFree && files == 0:
		return 3
	case isFree && !isHead && files == 0:
		return 1
	case files == 1 && !isHead && !isFree:
		return 2
	}
	return 4
}

func (e estate) isRight() bool {
	return !slices.ContainsFunc(e.owners(), func(code int) bool { return code > 3 })
}

func (e estate) isWithinLimits() bool {
	if len(e.files) > 12 || len(extentsOf(e.free, true)) > 60 {
		return false
	}
	for _, f := range e.files {
		if len(f.spots.laid().Pieces) > 40 {
			return false
		}
	}
	return true
}

// write goes from block to block of the stretch.
func (e estate) write(name string, from int, long int) (estate, bool) {
	if !e.isRight() || !isNameByTrial(name) || from < 0 || from > 199 || long < 1 || long > 200-from {
		return e, false
	}
	f, is := e.files[name]
	if !is {
		f.spots = noSpots()
	}
	f.spots = slices.Clone(f.spots)
	for n := from; n < from+long; n++ {
		many := 0
		for n+many < from+long && f.spots[n+many] == hole {
			many++
		}
		if many == 0 {
			continue
		}
		x, ok := e.roomFor(f.spots, n, many)
		if !ok {
			return e, false
		}
		e.free = withBlocks(e.free, x, false)
		for i := range x.Long {
			f.spots[n+i] = spot{at: x.At + i}
		}
	}
	f.size = max(f.size, from+long)
	next := e.with(name, f)
	return next, next.isWithinLimits()
}

// roomFor is of a stretch of holes, or of as much of it as the greatest extent has.
func (e estate) roomFor(s spots, n int, many int) (impl.Extent, bool) {
	near := 0
	if n > 0 && s[n-1] != hole {
		near = min(s[n-1].at+1, len(e.free)-1)
	}
	if at, ok := placeByTrial(e.free, many, impl.PickNear, near); ok {
		return extent(at, many), true
	}
	var greatest impl.Extent
	for _, x := range extentsOf(e.free, true) {
		if x.Long >= greatest.Long {
			greatest = x
		}
	}
	return greatest, greatest.Long > 0
}

// cut frees block by block.
func (e estate) cut(name string, size int) (estate, bool) {
	f, is := e.files[name]
	if !is || size < 0 || size > f.size {
		return e, false
	}
	free := slices.Clone(e.free)
	for at, was := range f.spots.taken(size, 200-size) {
		if was && (at >= len(free) || free[at]) {
			return e, false
		}
		if was {
			free[at] = true
		}
	}
	next := e.with(name, parcel{size, f.spots.without(size, 200-size)})
	next.free = free
	return next, next.isWithinLimits()
}

func (e estate) remove(name string) (estate, bool) {
	next, ok := e.cut(name, 0)
	return next.without(name), ok
}

func sameHeld(a impl.Held, b impl.Held) bool {
	return a.Name == b.Name && a.Size == b.Size && sameMap(a.Map, b.Map)
}

func sameSystem(a impl.System, b impl.System) bool {
	return a.Head == b.Head && sameFree(a.Room, b.Room) && slices.EqualFunc(a.Files, b.Files, sameHeld)
}

// wantSystem: it is that one, and good.
func wantSystem(t *testing.T, what string, got impl.System, ok bool, want impl.System) {
	t.Helper()
	if !ok || !sameSystem(got, want) || !impl.GoodSystem(got) {
		t.Fatalf("%s: got %v %v, want %v", what, got, ok, want)
	}
}

func wantNoSystem(t *testing.T, what string, got impl.System, ok bool) {
	t.Helper()
	if ok || !sameSystem(got, impl.System{}) {
		t.Fatalf("%s: got %v %v, want the zero answer", what, got, ok)
	}
}

func wantOwners(t *testing.T, s impl.System, want []int) {
	t.Helper()
	if got, ok := impl.OwnersOf(s); !ok || !slices.Equal(got, want) {
		t.Fatalf("OwnersOf of %v: got %v %v, want %v", s, got, ok, want)
	}
}

func wantChecked(t *testing.T, s impl.System, want bool) {
	t.Helper()
	if got, ok := impl.CheckSystem(s); !ok || got != want {
		t.Fatalf("CheckSystem of %v: got %v %v, want %v", s, got, ok, want)
	}
}

func wantUsedBy(t *testing.T, s impl.System, name string, want int) {
	t.Helper()
	if got, ok := impl.UsedBy(s, name); !ok || got != want {
		t.Fatalf("UsedBy of %q of %v: got %d %v, want %d", name, s, got, ok, want)
	}
}

// checkEstate: all that is told of a system is what its blocks tell; where it is right all blocks are those of files, of the head and the free ones.
func checkEstate(t *testing.T, e estate) {
	t.Helper()
	s := e.laid()
	if !impl.GoodSystem(s) {
		t.Fatalf("not good: %v", s)
	}
	wantOwners(t, s, e.owners())
	wantChecked(t, s, e.isRight())
	all, _, _ := impl.RoomIn(s.Room)
	all += s.Head
	for _, name := range e.names() {
		used := 0
		for _, x := range e.files[name].spots {
			if x != hole {
				used++
			}
		}
		wantUsedBy(t, s, name, used)
		all += used
	}
	if e.isRight() && !e.reachesBeyond() && all != len(e.free) {
		t.Fatalf("%d blocks of %v", all, s)
	}
}

// reachesBeyond: some file has a block behind the last one of Room.
func (e estate) reachesBeyond() bool {
	for _, f := range e.files {
		if slices.ContainsFunc(f.spots, func(x spot) bool { return x.at >= len(e.free) }) {
			return true
		}
	}
	return false
}

// checkWriteFile: what was free is the file's where there was a hole, there is none any more, and nothing else is another.
func checkWriteFile(t *testing.T, e estate, name string, from int, long int) estate {
	t.Helper()
	what := fmt.Sprintf("WriteFile of %q from %d, %d blocks", name, from, long)
	before := e.laid()
	got, ok := impl.WriteFile(before, name, from, long)
	next, can := e.write(name, from, long)
	if !can {
		wantNoSystem(t, what, got, ok)
		return e
	}
	wantSystem(t, what, got, ok, next.laid())
	wantChecked(t, got, true)
	after := estateOf(got)
	checkEstate(t, after)
	f, was := after.files[name], noSpots()
	if old, is := e.files[name]; is {
		was = old.spots
	}
	left := slices.Clone(e.free)
	for n, x := range f.spots {
		if was[n] != hole || n < from || n >= from+long {
			if x != was[n] {
				t.Fatalf("%s: block %d lay at %v, lies at %v", what, n, was[n], x)
			}
			continue
		}
		if x == hole || x.fresh || !left[x.at] {
			t.Fatalf("%s: block %d lies at %v", what, n, x)
		}
		left[x.at] = false
	}
	if !slices.Equal(after.free, left) {
		t.Fatalf("%s: free is %v, want %v", what, after.free, left)
	}
	wantOthersAsBefore(t, what, e, after, name)
	return next
}

func wantOthersAsBefore(t *testing.T, what string, before estate, after estate, name string) {
	t.Helper()
	one, two := before.without(name).laid(), after.without(name).laid()
	if one.Head != two.Head || !slices.EqualFunc(one.Files, two.Files, sameHeld) {
		t.Fatalf("%s: other files were %v, are %v", what, one.Files, two.Files)
	}
}

// checkFreed: what a file had from a block on is free, and nothing else is another.
func checkFreed(t *testing.T, what string, e estate, after estate, name string, size int) {
	t.Helper()
	left := slices.Clone(e.free)
	for at, was := range e.files[name].spots.taken(size, 200-size) {
		if was {
			left[at] = true
		}
	}
	if !slices.Equal(blocksOf(t, after.laid().Room), left) {
		t.Fatalf("%s: free is %v, want %v", what, after.free, left)
	}
	wantOthersAsBefore(t, what, e, after, name)
	wantChecked(t, after.laid(), after.isRight())
	if e.isRight() && !after.isRight() {
		t.Fatalf("%s: %v was right, %v is not", what, e.laid(), after.laid())
	}
}

func checkCutFile(t *testing.T, e estate, name string, size int) estate {
	t.Helper()
	what := fmt.Sprintf("CutFile of %q to %d", name, size)
	got, ok := impl.CutFile(e.laid(), name, size)
	next, can := e.cut(name, size)
	if !can {
		wantNoSystem(t, what, got, ok)
		return e
	}
	wantSystem(t, what, got, ok, next.laid())
	after := estateOf(got)
	checkEstate(t, after)
	checkFreed(t, what, e, after, name, size)
	f := after.files[name]
	if f.size != size || !slices.Equal(f.spots[:size], e.files[name].spots[:size]) || slices.ContainsFunc(f.spots[size:], func(x spot) bool { return x != hole }) {
		t.Fatalf("%s: got %v of %v", what, f, e.files[name])
	}
	return next
}

func checkRemoveFile(t *testing.T, e estate, name string) estate {
	t.Helper()
	what := fmt.Sprintf("RemoveFile of %q", name)
	got, ok := impl.RemoveFile(e.laid(), name)
	next, can := e.remove(name)
	if !can {
		wantNoSystem(t, what, got, ok)
		return e
	}
	wantSystem(t, what, got, ok, next.laid())
	after := estateOf(got)
	checkEstate(t, after)
	checkFreed(t, what, e, after, name, 0)
	wantNotUsedBy(t, got, name)
	return next
}

func wantNotUsedBy(t *testing.T, s impl.System, name string) {
	t.Helper()
	got, ok := impl.UsedBy(s, name)
	wantNoNumber(t, "UsedBy of "+name, got, ok)
}

func newEstate(t *testing.T, blocks int, head int) estate {
	t.Helper()
	s, ok := impl.NewSystem(blocks, head)
	if !ok {
		t.Fatalf("NewSystem of %d and %d is refused", blocks, head)
	}
	e := estateOf(s)
	wantSystem(t, "NewSystem", s, ok, e.laid())
	checkEstate(t, e)
	return e
}

// estateStep is one that a system may be asked for, good or refused.
type estateStep func(t *testing.T, e estate) estate

func stepsOnEstates(names []string, most int) []estateStep {
	var l []estateStep
	for _, name := range names {
		for from := range most {
			for long := 1; long <= most; long++ {
				l = append(l, func(t *testing.T, e estate) estate { return checkWriteFile(t, e, name, from, long) })
			}
		}
		for size := range most + 1 {
			l = append(l, func(t *testing.T, e estate) estate { return checkCutFile(t, e, name, size) })
		}
		l = append(l, func(t *testing.T, e estate) estate { return checkRemoveFile(t, e, name) })
	}
	return l
}

func TestSystemsOfFewBlocksInAllWays(t *testing.T) {
	for _, c := range []struct {
		blocks int
		head   int
		names  []string
		most   int
	}{{1, 0, []string{"a", "b"}, 2}, {4, 1, []string{"a"}, 3}, {4, 0, []string{"a", "b"}, 2}, {6, 2, []string{"a", "b"}, 3}, {5, 0, []string{"c", "a", "b"}, 2}} {
		checkAllWays(t, newEstate(t, c.blocks, c.head), 250, stepsOnEstates(c.names, c.most), checkEstate)
	}
}

// Systems that no row of steps may lead to: files lie anywhere, some of it not written yet.
func TestSystemsOfAllKindsInAllWays(t *testing.T) {
	for _, text := range []string{
		"1 #bab.a.a | a 6 0+1@7* 2+1@2 5+1@5 | b 3 1+1@3 2+1@1", "0 .a.a.a.a | a 4 0+1@7 1+1@5* 2+1@3 3+1@1", "0 a.a.b.b. | a 3 0+1@2* 2+1@0 | b 2 0+1@4 1+1@6",
		"2 ##a..b... | a 4 3+1@2 | b 1 0+1@5*", "0 ...a | a 200 199+1@3",
	} {
		checkAllWays(t, estateIn(text), 120, stepsOnEstates([]string{"a", "b"}, 3), checkEstate)
	}
}

// someNames are as many as a system may hold, and one more.
func someNames() []string {
	return []string{"a", "b", "c", "d", "e", "f", "f-1", "f.2", "g", "h", "0", "zzzzzzzzzzzz", "z"}
}

// someSize is one that the file may be cut to, or a little more.
func (e estate) someSize(s *steps, name string) int {
	return s.below(e.files[name].size + 3)
}

func someStep(t *testing.T, s *steps, e estate, run int) estate {
	t.Helper()
	name := someNames()[s.below(13)]
	switch kind := s.below(12); {
	case kind < 8:
		from := s.below(200)
		if size := e.files[name].size; size > 0 && s.below(3) > 0 {
			from = min(s.below(size+1), 199)
		}
		return checkWriteFile(t, e, name, from, 1+s.below(min(run, 200-from)))
	case kind < 11:
		return checkCutFile(t, e, name, e.someSize(s, name))
	}
	return checkRemoveFile(t, e, name)
}

// A row of steps: a system that is right stays right, and when all files are removed it is new again.
func TestARowOfFileSteps(t *testing.T) {
	for seed := range 60 {
		s := steps(1700 + seed)
		blocks := 1 + s.below(400)
		head := s.below(min(blocks, 9))
		first := newEstate(t, blocks, head)
		e := first
		run := 2 + s.below(40)
		for range 120 {
			e = someStep(t, &s, e, run)
		}
		for _, name := range e.names() {
			e = checkRemoveFile(t, e, name)
		}
		wantSystem(t, "all removed", e.laid(), true, first.laid())
	}
}

// someEstate is right, though perhaps no row of steps leads to it: all blocks are the head's, a file's or free, in runs of about so many, or of more, where these are too many.
func someEstate(s *steps, blocks int, run int) estate {
	for ; ; run++ {
		e := estate{head: s.below(min(blocks, 20) + 1), free: make([]bool, blocks), files: map[string]parcel{}}
		names := someNames()[:1+s.below(12)]
		for _, name := range names {
			e.files[name] = parcel{spots: noSpots()}
		}
		for at := e.head; at < blocks; {
			x := extent(at, min(1+s.below(run), blocks-at))
			if s.below(4) == 0 || !e.laysInto(names[s.below(len(names))], s.below(200), x, s.below(3) == 0) {
				e.free = withBlocks(e.free, x, true)
			}
			at += x.Long
		}
		if e.isWithinLimits() {
			return e
		}
	}
}

// laysInto tells false where the blocks of the file are not holes.
func (e estate) laysInto(name string, from int, x impl.Extent, fresh bool) bool {
	f := e.files[name]
	if from+x.Long > 200 || slices.ContainsFunc(f.spots[from:from+x.Long], func(x spot) bool { return x != hole }) {
		return false
	}
	f.spots = f.spots.with(impl.Piece{From: from, Long: x.Long, At: x.At, Fresh: fresh})
	f.size = max(f.size, from+x.Long)
	e.files[name] = f
	return true
}

func TestSystemsInNoOrder(t *testing.T) {
	s := steps(171)
	var written, cut tally
	for range 250 {
		e := someEstate(&s, 1+s.below(400), 1+s.below(12))
		checkEstate(t, e)
		for range 6 {
			name, from := someNames()[s.below(13)], s.below(200)
			long := 1 + s.below(200-from)
			_, can := e.write(name, from, long)
			written.count(can)
			checkWriteFile(t, e, name, from, long)
			_, can = e.cut(name, e.files[name].size/2)
			cut.count(can)
			checkCutFile(t, e, name, e.files[name].size/2)
			checkCutFile(t, e, name, e.someSize(&s, name))
		}
		checkRemoveFile(t, e, someNames()[s.below(13)])
	}
	written.wantBoth(t, 300, 300)
	cut.wantBoth(t, 300, 300)
}

// From any system that is right steps go on to such as are right.
func TestARowOfFileStepsFromAnySystem(t *testing.T) {
	for seed := range 40 {
		s := steps(1780 + seed)
		e := someEstate(&s, 100+s.below(300), 2+s.below(8))
		for range 40 {
			e = someStep(t, &s, e, 30)
		}
	}
}

// A stretch that is written has no hole any more, so that written again it is as it was; cut to its Size the file is, too.
func TestWhatIsWrittenTwiceIsAsItWas(t *testing.T) {
	s := steps(172)
	var written tally
	for range 250 {
		e := someEstate(&s, 200+s.below(200), 2+s.below(10))
		name, from, long := someNames()[s.below(13)], s.below(150), 1+s.below(50)
		one, can := e.write(name, from, long)
		written.count(can)
		if can {
			two := checkWriteFile(t, one, name, from, long)
			wantSystem(t, "written twice", two.laid(), true, one.laid())
			cut := checkCutFile(t, one, name, one.files[name].size)
			wantSystem(t, "cut to its Size", cut.laid(), true, one.laid())
		}
	}
	written.wantBoth(t, 100, 1)
}

// What is cut off and written again has as many blocks as it had, where it had no holes.
func TestWhatIsCutOffIsWrittenAgain(t *testing.T) {
	s := steps(173)
	for range 100 {
		e := newEstate(t, 20+s.below(300), s.below(10))
		for range 6 {
			e = checkWriteFile(t, e, someNames()[s.below(13)], s.below(20), 1+s.below(30))
		}
		for _, name := range e.names() {
			f := e.files[name]
			for size := range f.size {
				if !slices.Contains(f.spots[size:f.size], hole) {
					cut := checkCutFile(t, e, name, size)
					again := checkWriteFile(t, cut, name, size, f.size-size)
					all, _, _ := impl.RoomIn(again.laid().Room)
					wantRoomIn(t, e.laid().Room, all)
				}
			}
		}
	}
}

func wantRoomIn(t *testing.T, f impl.Free, want int) {
	t.Helper()
	if got, _, ok := impl.RoomIn(f); !ok || got != want {
		t.Fatalf("%d blocks are free, want %d", got, want)
	}
}
