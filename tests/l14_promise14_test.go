package tests

import (
	"fmt"
	"slices"
	"strings"
	"testing"

	"loop.example/g00261/impl"
)

// herd is a cow that is changed on the spot, its counts kept by hand: what is had once more counts one more, what is let go one less.
type herd struct {
	impl.Cow
}

// herdIn reads the levels and the roots, and behind '|' the cells: '-' is free, N=text a leaf that counts N, N/a,b,c,d one with Kids. '.' is -1.
func herdIn(text string) *herd {
	ahead, behind, _ := strings.Cut(text, "|")
	words := strings.Fields(ahead)
	h := &herd{}
	h.Levels = numberIn(words[0])
	h.Roots = cellNumbers(words[1:])
	for _, word := range strings.Fields(behind) {
		h.Cells = append(h.Cells, cellIn(word))
	}
	return h
}

func cellIn(word string) impl.Cell {
	if word == "-" {
		return impl.Cell{}
	}
	if count, kids, is := strings.Cut(word, "/"); is {
		return impl.Cell{Count: numberIn(count), Kids: cellNumbers(strings.Split(kids, ","))}
	}
	count, leaf, _ := strings.Cut(word, "=")
	return impl.Cell{Count: numberIn(count), Leaf: leaf}
}

func cellNumbers(words []string) []int {
	var l []int
	for _, word := range words {
		if word == "." {
			word = "-1"
		}
		l = append(l, numberIn(word))
	}
	return l
}

func cowIn(text string) impl.Cow {
	return herdIn(text).Cow
}

func copyCow(c impl.Cow) impl.Cow {
	out := impl.Cow{Cells: slices.Clone(c.Cells), Roots: slices.Clone(c.Roots), Levels: c.Levels}
	for i, x := range out.Cells {
		out.Cells[i].Kids = slices.Clone(x.Kids)
	}
	return out
}

func (h *herd) copied() *herd {
	return &herd{copyCow(h.Cow)}
}

func (h *herd) places() int {
	return []int{1, 4, 16}[h.Levels-1]
}

// digits are those of a place to the base 4, as many as there are levels below the root, the highest first.
func (h *herd) digits(at int) []int {
	return [][]int{{}, {at % 4}, {at / 4, at % 4}}[h.Levels-1]
}

func (h *herd) leaf(root int, at int) string {
	number := h.Roots[root]
	for _, digit := range h.digits(at) {
		if number >= 0 {
			number = h.Cells[number].Kids[digit]
		}
	}
	if number < 0 {
		return ""
	}
	return h.Cells[number].Leaf
}

func (h *herd) leaves(root int) []string {
	var l []string
	for at := range h.places() {
		l = append(l, h.leaf(root, at))
	}
	return l
}

// add takes the least number that is free.
func (h *herd) add(x impl.Cell) int {
	x.Count = 1
	for number, y := range h.Cells {
		if y.Count == 0 {
			h.Cells[number] = x
			return number
		}
	}
	h.Cells = append(h.Cells, x)
	return len(h.Cells) - 1
}

// own has a cell of its own in place of one that others have, too, and a new one in place of none.
func (h *herd) own(number int, isLeaf bool) int {
	switch {
	case number < 0 && isLeaf:
		return h.add(impl.Cell{})
	case number < 0:
		return h.add(impl.Cell{Kids: []int{-1, -1, -1, -1}})
	case h.Cells[number].Count == 1:
		return number
	}
	h.Cells[number].Count--
	x := impl.Cell{Leaf: h.Cells[number].Leaf, Kids: slices.Clone(h.Cells[number].Kids)}
	for _, kid := range x.Kids {
		if kid >= 0 {
			h.Cells[kid].Count++
		}
	}
	return h.add(x)
}

// put goes down the way with its own cells, and up it again as long as they have nothing below them.
func (h *herd) put(root int, at int, leaf string) {
	if h.leaf(root, at) == leaf {
		return
	}
	digits := h.digits(at)
	spots := []*int{&h.Roots[root]}
	for level := range h.Levels {
		spot := spots[level]
		*spot = h.own(*spot, level == len(digits))
		if level < len(digits) {
			spots = append(spots, &h.Cells[*spot].Kids[digits[level]])
		}
	}
	h.Cells[*spots[len(digits)]].Leaf = leaf
	slices.Reverse(spots)
	for _, spot := range spots {
		x := h.Cells[*spot]
		if x.Leaf != "" || slices.ContainsFunc(x.Kids, func(kid int) bool { return kid >= 0 }) {
			break
		}
		h.Cells[*spot] = impl.Cell{}
		*spot = -1
	}
}

func (h *herd) take(root int) {
	h.Roots = append(h.Roots, h.Roots[root])
	if h.Roots[root] >= 0 {
		h.Cells[h.Roots[root]].Count++
	}
}

func (h *herd) drop(root int) {
	h.letGo(h.Roots[root])
	h.Roots = slices.Delete(h.Roots, root, root+1)
}

func (h *herd) letGo(number int) {
	if number < 0 {
		return
	}
	h.Cells[number].Count--
	if h.Cells[number].Count > 0 {
		return
	}
	for _, kid := range h.Cells[number].Kids {
		h.letGo(kid)
	}
	h.Cells[number] = impl.Cell{}
}

// below has a cell and all that it comes to.
func (h *herd) below(number int) map[int]bool {
	all := map[int]bool{}
	for work := []int{number}; len(work) > 0; work = work[1:] {
		if work[0] >= 0 && !all[work[0]] {
			all[work[0]] = true
			work = append(work, h.Cells[work[0]].Kids...)
		}
	}
	return all
}

func (h *herd) shared(a int, b int) int {
	many, all := 0, h.below(h.Roots[a])
	for number := range h.below(h.Roots[b]) {
		if all[number] {
			many++
		}
	}
	return many
}

func (h *herd) used() int {
	many := 0
	for _, x := range h.Cells {
		if x.Count > 0 {
			many++
		}
	}
	return many
}

func (h *herd) hasRoot(root int) bool {
	return root >= 0 && root < len(h.Roots)
}

func (h *herd) hasPlace(root int, at int) bool {
	return h.hasRoot(root) && at >= 0 && at < h.places()
}

func sameCell(a impl.Cell, b impl.Cell) bool {
	return a.Count == b.Count && a.Leaf == b.Leaf && slices.Equal(a.Kids, b.Kids)
}

func sameCow(a impl.Cow, b impl.Cow) bool {
	return slices.EqualFunc(a.Cells, b.Cells, sameCell) && slices.Equal(a.Roots, b.Roots) && a.Levels == b.Levels
}

func wantCow(t *testing.T, what string, got impl.Cow, ok bool, want impl.Cow) {
	t.Helper()
	if !ok || !sameCow(got, want) || !impl.GoodCow(got) {
		t.Fatalf("%s: got %v %v, want %v", what, got, ok, want)
	}
}

func wantNoCow(t *testing.T, what string, got impl.Cow, ok bool) {
	t.Helper()
	if ok || !sameCow(got, impl.Cow{}) {
		t.Fatalf("%s: got %v %v, want the zero answer", what, got, ok)
	}
}

func wantLeaves(t *testing.T, c impl.Cow, root int, want []string) {
	t.Helper()
	if got, ok := impl.LeavesOf(c, root); !ok || !slices.Equal(got, want) {
		t.Fatalf("LeavesOf of %v, %d: got %q %v, want %q", c, root, got, ok, want)
	}
}

func wantNoLeaves(t *testing.T, c impl.Cow, root int) {
	t.Helper()
	if got, ok := impl.LeavesOf(c, root); ok || len(got) != 0 {
		t.Fatalf("LeavesOf of %v, %d: got %q %v, want the zero answer", c, root, got, ok)
	}
}

func wantLeaf(t *testing.T, c impl.Cow, root int, at int, want string) {
	t.Helper()
	if got, ok := impl.LeafAt(c, root, at); !ok || got != want {
		t.Fatalf("LeafAt of %v, %d, %d: got %q %v, want %q", c, root, at, got, ok, want)
	}
}

func wantNoLeaf(t *testing.T, c impl.Cow, root int, at int) {
	t.Helper()
	if got, ok := impl.LeafAt(c, root, at); ok || got != "" {
		t.Fatalf("LeafAt of %v, %d, %d: got %q %v, want the zero answer", c, root, at, got, ok)
	}
}

func wantShared(t *testing.T, c impl.Cow, a int, b int, want int) {
	t.Helper()
	if got, ok := impl.SharedBy(c, a, b); !ok || got != want {
		t.Fatalf("SharedBy of %v, %d, %d: got %d %v, want %d", c, a, b, got, ok, want)
	}
}

func wantNotShared(t *testing.T, c impl.Cow, a int, b int) {
	t.Helper()
	if got, ok := impl.SharedBy(c, a, b); ok || got != 0 {
		t.Fatalf("SharedBy of %v, %d, %d: got %d %v, want the zero answer", c, a, b, got, ok)
	}
}

func wantUsed(t *testing.T, c impl.Cow, want int) {
	t.Helper()
	if got, ok := impl.UsedCells(c); !ok || got != want {
		t.Fatalf("UsedCells of %v: got %d %v, want %d", c, got, ok, want)
	}
}

// checkHerd asks all that can be asked of a good cow.
func checkHerd(t *testing.T, h *herd) {
	t.Helper()
	if !impl.GoodCow(h.Cow) {
		t.Fatalf("not good: %v", h.Cow)
	}
	wantUsed(t, h.Cow, h.used())
	for root := range h.Roots {
		wantLeaves(t, h.Cow, root, h.leaves(root))
		for at := range h.places() {
			wantLeaf(t, h.Cow, root, at, h.leaf(root, at))
		}
		for other := range h.Roots {
			wantShared(t, h.Cow, root, other, h.shared(root, other))
		}
	}
}

// checkNoneKept: each cell that is not free is come to from a root.
func checkNoneKept(t *testing.T, h *herd) {
	t.Helper()
	wantUsed(t, h.Cow, h.used())
	all := map[int]bool{}
	for _, number := range h.Roots {
		for cell := range h.below(number) {
			all[cell] = true
		}
	}
	if len(all) != h.used() {
		t.Fatalf("%d cells are come to, %d are used: %v", len(all), h.used(), h.Cow)
	}
}

// checkCowStep does a step, and wants what is done to the herd by hand, or the zero answer where it tells that it may not be done.
func checkCowStep(t *testing.T, what string, h *herd, step func(c impl.Cow) (impl.Cow, bool), do func(next *herd) bool) (*herd, bool) {
	t.Helper()
	argument, next := h.copied(), h.copied()
	got, ok := step(argument.Cow)
	if !sameCow(argument.Cow, h.Cow) {
		t.Fatalf("%s: %v was written into: %v", what, h.Cow, argument.Cow)
	}
	if !do(next) {
		wantNoCow(t, fmt.Sprint(what, " of ", h.Cow), got, ok)
		return h, false
	}
	wantCow(t, fmt.Sprint(what, " of ", h.Cow), got, ok, next.Cow)
	checkNoneKept(t, next)
	return next, true
}

// checkPut: what is put is there; all else at that root, and all other roots, are as they were.
func checkPut(t *testing.T, h *herd, root int, at int, leaf string) *herd {
	t.Helper()
	next, done := checkCowStep(t, fmt.Sprintf("PutLeaf %d, %d, %q", root, at, leaf), h,
		func(c impl.Cow) (impl.Cow, bool) { return impl.PutLeaf(c, root, at, leaf) },
		func(next *herd) bool {
			if !h.hasPlace(root, at) || len(leaf) > 8 {
				return false
			}
			next.put(root, at, leaf)
			return len(next.Cells) <= 80
		})
	for other := range h.Roots {
		if !done {
			break
		}
		want := h.leaves(other)
		if other == root {
			want[at] = leaf
		}
		wantLeaves(t, next.Cow, other, want)
		wantLeaf(t, next.Cow, other, at, want[at])
		wantShared(t, next.Cow, root, other, next.shared(root, other))
	}
	return next
}

// checkTake: the new picture is the one that it was taken of, shares all its cells, and costs none.
func checkTake(t *testing.T, h *herd, root int) *herd {
	t.Helper()
	next, done := checkCowStep(t, fmt.Sprint("TakePicture ", root), h,
		func(c impl.Cow) (impl.Cow, bool) { return impl.TakePicture(c, root) },
		func(next *herd) bool {
			if !h.hasRoot(root) || len(h.Roots) == 8 {
				return false
			}
			next.take(root)
			return true
		})
	if done {
		wantLeaves(t, next.Cow, len(h.Roots), h.leaves(root))
		wantShared(t, next.Cow, root, len(h.Roots), len(h.below(h.Roots[root])))
		wantUsed(t, next.Cow, h.used())
	}
	return next
}

// checkDrop: the other pictures are as they were, in their order.
func checkDrop(t *testing.T, h *herd, root int) *herd {
	t.Helper()
	next, done := checkCowStep(t, fmt.Sprint("DropPicture ", root), h,
		func(c impl.Cow) (impl.Cow, bool) { return impl.DropPicture(c, root) },
		func(next *herd) bool {
			if !h.hasRoot(root) || len(h.Roots) == 1 {
				return false
			}
			next.drop(root)
			return true
		})
	for i := range next.Roots {
		if !done {
			break
		}
		was := i
		if i >= root {
			was++
		}
		wantLeaves(t, next.Cow, i, h.leaves(was))
	}
	return next
}

// checkLast: when all roots but one are dropped, in either order, its cells alone are left.
func checkLast(t *testing.T, h *herd) {
	t.Helper()
	for keep := range h.Roots {
		up, down := h, h
		for ahead := range keep {
			up = checkDrop(t, up, 0)
			down = checkDrop(t, down, keep-1-ahead)
		}
		for len(up.Roots) > 1 {
			up = checkDrop(t, up, 1)
			down = checkDrop(t, down, len(down.Roots)-1)
		}
		for _, left := range []*herd{up, down} {
			wantUsed(t, left.Cow, len(h.below(h.Roots[keep])))
			wantLeaves(t, left.Cow, 0, h.leaves(keep))
		}
	}
}

// cowStep is done to a herd, and checked.
type cowStep func(t *testing.T, h *herd) *herd

func puttingAt(root int, at int, leaf string) cowStep {
	return func(t *testing.T, h *herd) *herd {
		t.Helper()
		return checkPut(t, h, root, at, leaf)
	}
}

// allCowSteps are all that can be done with so many roots at those places.
func allCowSteps(roots int, places []int, leaves ...string) []cowStep {
	var l []cowStep
	for root := range roots {
		for _, at := range places {
			for _, leaf := range leaves {
				l = append(l, puttingAt(root, at, leaf))
			}
		}
		l = append(l, func(t *testing.T, h *herd) *herd {
			t.Helper()
			if len(h.Roots) == roots {
				return h
			}
			return checkTake(t, h, root)
		})
		l = append(l, func(t *testing.T, h *herd) *herd {
			t.Helper()
			return checkDrop(t, h, root)
		})
	}
	return l
}

func checkAllCows(t *testing.T, h *herd, many int, steps []cowStep) {
	t.Helper()
	checkAllWays(t, h, many, steps, checkHerd)
}

func TestCowsOfFewStepsInAllWays(t *testing.T) {
	checkAllCows(t, herdIn("1 . |"), 400, allCowSteps(3, []int{0}, "a", "b", ""))
	checkAllCows(t, herdIn("2 . |"), 600, allCowSteps(2, []int{0, 1}, "a", "b", ""))
	checkAllCows(t, herdIn("2 0 0 0 | 3/1,.,.,2 1=a 1=b"), 400, allCowSteps(3, []int{0, 3}, "c", ""))
	checkAllCows(t, herdIn("3 . |"), 400, allCowSteps(2, []int{0, 1, 15}, "a", ""))
	checkAllCows(t, herdIn("3 0 0 | 2/1,1,.,. 2/2,2,.,2 3=a - -"), 300, allCowSteps(2, []int{0, 1, 4}, "a", "b", ""))
}

// fullHerd has so many cells, all used, of three levels: roots that share nothing and have 21 cells each, and the rest in the next one.
func fullHerd(cells int) *herd {
	h := herdIn("3 . . . . |")
	for root := range h.Roots {
		for i := range 16 {
			if len(h.Cells) < cells {
				h.put(root, i%4*4+i/4, fmt.Sprint(root, "-", i))
			}
		}
	}
	if len(h.Cells) != cells || h.used() != cells {
		panic(fmt.Sprint("no herd of ", cells))
	}
	return h
}

// At the limit of cells, in all ways: what needs one too many is refused, all else done.
func TestCowsAtTheirLimitInAllWays(t *testing.T) {
	for cells := 76; cells <= 80; cells++ {
		h := fullHerd(cells)
		h.take(3)
		checkAllCows(t, h, 25, allCowSteps(5, []int{0, 5, 15}, "a", ""))
	}
}

// A row of steps in no order, with as many roots as there may be.
func TestARowOfCowStepsInNoOrder(t *testing.T) {
	put, full := 0, 0
	for seed := range 40 {
		s := steps(1400 + seed)
		h := &herd{impl.Cow{Roots: []int{-1}, Levels: max(1, seed%4)}}
		for i := range 200 {
			if i%20 == 0 {
				checkHerd(t, h)
			}
			root := s.below(len(h.Roots))
			switch s.below(24) {
			case 0:
				h = checkDrop(t, h, root)
			case 1, 2:
				h = checkTake(t, h, root)
			default:
				at, leaf := s.below(h.places()), firstNames(5)[s.below(5)]
				if s.below(8) == 0 {
					leaf = ""
				}
				next := checkPut(t, h, root, at, leaf)
				if next != h {
					put++
				} else {
					full++
				}
				h = next
			}
		}
		checkLast(t, h)
	}
	if put < 3000 || full < 20 {
		t.Errorf("put %d times, too many cells %d times", put, full)
	}
}

// someHerd is a good cow that perhaps no row of steps leads to: any kids, also the same one more than once, and free cells between.
func someHerd(s *steps, levels int, most int) *herd {
	h := &herd{impl.Cow{Levels: levels}}
	byLevel := make([][]int, levels)
	for level := range levels {
		for range 1 + s.below(most) {
			x := impl.Cell{Leaf: firstNames(9)[s.below(9)]}
			if level > 0 {
				x = impl.Cell{Kids: []int{-1, -1, -1, -1}}
				for range 1 + s.below(6) {
					below := byLevel[level-1]
					x.Kids[s.below(4)] = below[s.below(len(below))]
				}
			}
			byLevel[level] = append(byLevel[level], len(h.Cells))
			h.Cells = append(h.Cells, x)
			if s.below(4) == 0 {
				h.Cells = append(h.Cells, impl.Cell{})
			}
		}
	}
	tops := append(byLevel[levels-1], -1)
	for range 1 + s.below(8) {
		h.Roots = append(h.Roots, tops[s.below(len(tops))])
	}
	h.count()
	return h
}

// count tells counts anew: of what is come to from the roots; all else is free.
func (h *herd) count() {
	all := map[int]bool{}
	for _, number := range h.Roots {
		for cell := range h.below(number) {
			all[cell] = true
		}
	}
	lists := [][]int{h.Roots}
	for number := range h.Cells {
		h.Cells[number].Count = 0
		if !all[number] {
			h.Cells[number] = impl.Cell{}
		}
		lists = append(lists, h.Cells[number].Kids)
	}
	for _, number := range slices.Concat(lists...) {
		if number >= 0 {
			h.Cells[number].Count++
		}
	}
}

func TestCowsInNoOrder(t *testing.T) {
	s := steps(1414)
	for range 300 {
		h := someHerd(&s, 1+s.below(3), 9)
		checkHerd(t, h)
		for range 4 {
			checkPut(t, h, s.below(len(h.Roots)), s.below(h.places()), firstNames(9)[s.below(9)])
			checkPut(t, h, s.below(len(h.Roots)), s.below(h.places()), "")
			checkTake(t, h, s.below(len(h.Roots)))
			checkDrop(t, h, s.below(len(h.Roots)))
		}
		checkLast(t, h)
	}
}

// A picture is as it was, whatever is put at the root that it was taken of.
func TestAPictureStaysAsItWas(t *testing.T) {
	for levels := 1; levels <= 3; levels++ {
		s := steps(140 + levels)
		c, ok := impl.NewCow(levels)
		var pictures [][]string
		h := &herd{impl.Cow{Levels: levels}}
		for range 7 {
			for range 5 {
				next, fits := impl.PutLeaf(c, 0, s.below(h.places()), firstNames(20)[s.below(20)])
				if fits {
					c = next
				}
			}
			picture, _ := impl.LeavesOf(c, 0)
			pictures = append(pictures, picture)
			c, ok = impl.TakePicture(c, 0)
			for i, want := range pictures {
				wantLeaves(t, c, i+1, want)
			}
		}
		for at := range h.places() {
			c, ok = impl.PutLeaf(c, 0, at, "")
			if !ok {
				t.Fatalf("levels %d: the place %d is not emptied", levels, at)
			}
			for i, want := range pictures {
				wantLeaves(t, c, i+1, want)
			}
		}
		if c.Roots[0] != -1 {
			t.Errorf("levels %d: the emptied root is %d", levels, c.Roots[0])
		}
	}
}
