package tests

import (
	"fmt"
	"math"
	"slices"
	"strings"
	"testing"

	"loop.example/g00261/impl"
)

// goodCowByWords goes by the words of the chapter one by one: each cell has a level by itself, as it stands above its kids.
func goodCowByWords(c impl.Cow) bool {
	if c.Levels < 1 || c.Levels > 3 || len(c.Cells) > 80 || len(c.Roots) < 1 || len(c.Roots) > 8 {
		return false
	}
	levels, ok := cellLevels(c.Cells)
	if !ok {
		return false
	}
	named, come := map[int]int{}, map[int]bool{}
	for _, root := range c.Roots {
		if root != -1 && (root < 0 || root >= len(c.Cells) || levels[root] != c.Levels) {
			return false
		}
		named[root]++
		come[root] = true
	}
	for range c.Cells {
		for number, x := range c.Cells {
			for _, kid := range x.Kids {
				come[kid] = come[kid] || come[number]
			}
		}
	}
	for _, x := range c.Cells {
		for _, kid := range x.Kids {
			named[kid]++
		}
	}
	for number, x := range c.Cells {
		if x.Count != named[number] || x.Count > 0 && !come[number] {
			return false
		}
	}
	return true
}

// cellLevels tells 0 of a free cell; and false, where one has no level.
func cellLevels(cells []impl.Cell) ([]int, bool) {
	levels := make([]int, len(cells))
	for range 4 {
		for number, x := range cells {
			levels[number] = levelByWords(x, levels)
		}
	}
	for number, x := range cells {
		isFree := x.Count == 0 && x.Leaf == "" && len(x.Kids) == 0
		if isFree != (levels[number] == 0) || levels[number] > 3 {
			return nil, false
		}
	}
	return levels, true
}

// levelByWords goes by the levels so far as they are told.
func levelByWords(x impl.Cell, levels []int) int {
	if x.Count != 0 && len(x.Kids) == 0 && len(x.Leaf) >= 1 && len(x.Leaf) <= 8 {
		return 1
	}
	if x.Count == 0 || len(x.Kids) != 4 || x.Leaf != "" {
		return 0
	}
	below := 0
	for _, kid := range x.Kids {
		if kid == -1 {
			continue
		}
		if kid < 0 || kid >= len(levels) || levels[kid] == 0 || below > 0 && levels[kid] != below {
			return 0
		}
		below = levels[kid]
	}
	if below == 0 {
		return 0
	}
	return below + 1
}

// goodCowTexts are cows that are good, each in its own way.
func goodCowTexts() []string {
	return []string{
		"1 . |", "2 . . | -", "3 . | - -", "1 0 | 1=a", "1 0 0 | 2=a", "1 1 0 . | 1=a 1=b -", "2 0 | 1/1,.,.,. 1=a", "2 0 0 | 2/.,1,.,2 1=abcdefgh 1=b", "2 0 2 | 1/1,.,.,. 2=a 1/1,3,.,. 1=b -",
		"2 0 | 1/1,1,.,. 2=a", "2 3 . 1 | 2=a 1/0,.,2,. 1=c 1/.,0,.,.", "3 0 | 1/1,.,.,. 1/2,.,.,. 1=a", "3 0 0 | 2/1,.,.,. 1/2,.,.,. 1=a -", "3 0 5 | 1/.,1,3,. 1/.,2,.,. 1=five 2/.,4,.,. 1=nine 1/.,6,3,. 1/.,7,.,. 1=other",
		"3 0 0 | 2/1,1,.,. 2/2,2,.,2 3=a - -", "3 4 | 2=a - 1/0,.,.,0 1/6,.,.,. 1/2,.,.,3 - 1=b", "3 0 0 0 0 0 0 0 0 | 8/1,.,.,. 1/.,2,.,. 1=a", "3 . 3 0 | 1/.,1,.,. 2/.,2,.,. 1=a 1/.,1,.,4 1/.,.,.,5 1=b",
	}
}

// badCows are not as said, each in one way.
func badCows() []impl.Cow {
	var l []impl.Cow
	for _, text := range []string{
		"0 . |", "4 . |", "-1 . |", "1 |", "1 -2 |", "1 0 |", "1 1 | 1=a", "1 0 | 2=a", "1 0 0 | 1=a", "1 . | 1=a", "1 . | 0=a", "1 0 | 1", "1 0 | -", "1 0 | 1=abcdefghi", "1 0 | 1/.,.,.,.", "1 0 | 1/1,.,.,. 1=a", "1 . . . . . . . . . |",
		"2 0 | 1=a", "2 0 1 | 1/1,.,.,. 2=a", "2 0 | 1/1,.,. 1=a", "2 0 | 1/1,.,.,.,. 1=a", "2 0 | 1/.,.,.,.", "2 0 | 1/1,-2,.,. 1=a", "2 0 | 1/1,2,.,. 1=a", "2 0 | 1/1,.,.,. -", "2 0 | 1/1,.,.,. 2=a 0/1,.,.,.", "2 . | 0/.,.,.,.", "2 0 | 1/1,1,.,. 1=a",
		"2 . | 1/1,.,.,. 1/0,.,.,.", "2 0 | 2/0,.,.,.", "2 . | 1/0,.,.,.", "2 0 | 2/1,.,.,. 1/0,.,.,.", "2 0 | 1/1,.,.,. 1/2,.,.,. 1=a", "3 0 | 1/1,.,.,. 1=a", "3 0 | 1/1,.,.,. 2/1,.,.,.", "3 0 | 1/1,.,.,. 1/2,.,.,. 1/3,.,.,. 1=a", "3 0 1 | 1/1,.,.,. 2/2,.,.,. 1=a",
		"3 0 | 1/1,2,.,. 1/2,.,.,. 2=a", "3 0 | 2/1,.,.,. 1/2,.,.,. 1/0,.,.,.", "3 0 | 1/1,.,.,. 1/.,.,.,.", "3 0 | 1/1,.,.,. 1/2,.,.,. 2=a",
	} {
		l = append(l, cowIn(text))
	}
	both := cowIn("2 0 | 1/1,.,.,. 1=a")
	both.Cells[0].Leaf = "a"
	kids := cowIn("1 0 | 1=a")
	kids.Cells[0].Kids = []int{-1, -1, -1, -1}
	huge := cowIn("2 0 | 1/1,.,.,. 1=a")
	huge.Cells[0].Kids = make([]int, 100000)
	long := cowIn("1 0 | 1=a")
	long.Cells[0].Leaf = strings.Repeat("a", 100000)
	l = append(l, impl.Cow{}, both, kids, huge, long, fullHerd(81).Cow)
	for _, levels := range []int{0, 1, 2, 3} {
		l = append(l, impl.Cow{Cells: make([]impl.Cell, 100000), Roots: []int{-1}, Levels: levels}, impl.Cow{Roots: make([]int, 100000), Levels: levels})
	}
	for _, n := range oddNumbers() {
		if n < 1 || n > 3 {
			l = append(l, impl.Cow{Roots: []int{-1}, Levels: n}, impl.Cow{Cells: []impl.Cell{{Count: 1, Leaf: "a"}}, Roots: []int{0}, Levels: n})
		}
		if n != 1 {
			l = append(l, impl.Cow{Cells: []impl.Cell{{Count: n, Leaf: "a"}}, Roots: []int{0}, Levels: 1})
		}
		if n != -1 {
			l = append(l, impl.Cow{Roots: []int{n}, Levels: 2}, impl.Cow{Cells: []impl.Cell{{Count: 1, Kids: []int{1, n, -1, -1}}, {Count: 1, Leaf: "a"}}, Roots: []int{0}, Levels: 2})
		}
	}
	return l
}

func wantCowRefused(t *testing.T, c impl.Cow) {
	t.Helper()
	if impl.GoodCow(c) {
		t.Fatalf("%v is good", c)
	}
	if n, ok := impl.UsedCells(c); ok || n != 0 {
		t.Fatalf("UsedCells of %v: got %d %v, want the zero answer", c, n, ok)
	}
	for _, root := range []int{0, 1, -1, math.MaxInt, math.MinInt} {
		for _, at := range []int{0, 1, 15, -1, math.MaxInt, math.MinInt} {
			for _, leaf := range []string{"", "a", "a leaf of many bytes"} {
				got, ok := impl.PutLeaf(c, root, at, leaf)
				wantNoCow(t, "PutLeaf", got, ok)
			}
			wantNoLeaf(t, c, root, at)
			wantNotShared(t, c, root, at)
		}
		got, ok := impl.TakePicture(c, root)
		wantNoCow(t, "TakePicture", got, ok)
		got, ok = impl.DropPicture(c, root)
		wantNoCow(t, "DropPicture", got, ok)
		wantNoLeaves(t, c, root)
	}
}

func TestBadCowsAreRefused(t *testing.T) {
	for _, c := range badCows() {
		if goodCowByWords(c) {
			t.Fatalf("%v is good by the words", c)
		}
		held := copyCow(c)
		wantCowRefused(t, c)
		if !sameCow(c, held) {
			t.Fatalf("a refusal wrote into %v", held)
		}
	}
}

func TestOddNumbersInCows(t *testing.T) {
	for _, n := range oddNumbers() {
		got, ok := impl.NewCow(n)
		if n < 1 || n > 3 {
			wantNoCow(t, "NewCow", got, ok)
		} else {
			wantCow(t, "NewCow", got, ok, impl.Cow{Roots: []int{-1}, Levels: n})
		}
		for _, text := range goodCowTexts() {
			h := herdIn(text)
			for _, leaf := range []string{"", "a", "new"} {
				checkPut(t, h, n, 0, leaf)
				checkPut(t, h, 0, n, leaf)
				checkPut(t, h, n, n, leaf)
			}
			checkTake(t, h, n)
			checkDrop(t, h, n)
			if !h.hasRoot(n) {
				wantNoLeaves(t, h.Cow, n)
				wantNotShared(t, h.Cow, n, 0)
				wantNotShared(t, h.Cow, 0, n)
			}
			if !h.hasPlace(0, n) {
				wantNoLeaf(t, h.Cow, 0, n)
			}
			if !h.hasPlace(n, 0) {
				wantNoLeaf(t, h.Cow, n, 0)
			}
		}
	}
}

// checkGoodCow: what is good by the words is good, and answered; what is not is neither.
func checkGoodCow(t *testing.T, c impl.Cow) bool {
	t.Helper()
	good := goodCowByWords(c)
	if impl.GoodCow(c) != good {
		t.Fatalf("GoodCow of %v: got %v", c, !good)
	}
	if _, ok := impl.UsedCells(c); ok != good {
		t.Fatalf("UsedCells of %v: told %v", c, ok)
	}
	if _, ok := impl.LeavesOf(c, 0); ok != good {
		t.Fatalf("LeavesOf of %v: told %v", c, ok)
	}
	if _, ok := impl.SharedBy(c, 0, 0); ok != good {
		t.Fatalf("SharedBy of %v: told %v", c, ok)
	}
	got, ok := impl.PutLeaf(c, 0, 0, "")
	if !good {
		wantNoCow(t, "PutLeaf", got, ok)
	} else if !ok || !impl.GoodCow(got) {
		t.Fatalf("PutLeaf of %v: got %v %v", c, got, ok)
	}
	return good
}

// changedCows differ from a cow in one number, one leaf or one cell.
func changedCows(c impl.Cow) []impl.Cow {
	var l []impl.Cow
	change := func(by func(d *impl.Cow)) {
		d := copyCow(c)
		by(&d)
		l = append(l, d)
	}
	for _, by := range []int{-2, -1, 1, 2, math.MaxInt, math.MinInt} {
		change(func(d *impl.Cow) { d.Levels += by })
		for i := range c.Roots {
			change(func(d *impl.Cow) { d.Roots[i] += by })
		}
		for i := range c.Cells {
			change(func(d *impl.Cow) { d.Cells[i].Count += by })
			for k := range c.Cells[i].Kids {
				change(func(d *impl.Cow) { d.Cells[i].Kids[k] += by })
			}
		}
	}
	for i, x := range c.Cells {
		for _, leaf := range []string{"", "x", "8 bytes.", "9 bytes.."} {
			change(func(d *impl.Cow) { d.Cells[i].Leaf = leaf })
		}
		for _, kids := range [][]int{nil, {-1}, {-1, -1, -1, -1}, append(slices.Clone(x.Kids), -1), {0, -1, -1, -1}, {-1, 1, -1, -1}} {
			change(func(d *impl.Cow) { d.Cells[i].Kids = slices.Clone(kids) })
		}
		for k := range x.Kids {
			change(func(d *impl.Cow) { d.Cells[i].Kids[k] = -1 })
			change(func(d *impl.Cow) { d.Cells[i].Kids[k], d.Cells[i].Kids[0] = x.Kids[0], x.Kids[k] })
		}
		change(func(d *impl.Cow) { d.Cells[i] = impl.Cell{} })
		change(func(d *impl.Cow) { d.Cells = slices.Delete(d.Cells, i, i+1) })
		change(func(d *impl.Cow) { d.Cells[i], d.Cells[0] = d.Cells[0], d.Cells[i] })
		for root := range c.Roots {
			change(func(d *impl.Cow) { d.Roots[root] = i })
		}
	}
	for _, x := range []string{"-", "1=x", "0=x", "1/0,.,.,.", "1/.,.,.,."} {
		change(func(d *impl.Cow) { d.Cells = append(d.Cells, cellIn(x)) })
	}
	for _, root := range []int{-1, 0, 1, len(c.Cells)} {
		change(func(d *impl.Cow) { d.Roots = append(d.Roots, root) })
	}
	change(func(d *impl.Cow) { d.Roots = d.Roots[min(1, len(d.Roots)):] })
	return l
}

func TestGoodCowIsWhatTheWordsSay(t *testing.T) {
	var c tally
	for _, text := range goodCowTexts() {
		if !goodCowByWords(cowIn(text)) {
			t.Errorf("%s is not good by the words", text)
		}
		for _, one := range changedCows(cowIn(text)) {
			c.count(checkGoodCow(t, one))
		}
	}
	for _, text := range []string{"1 . |", "1 0 0 | 2=a", "2 0 | 1/1,.,.,. 1=a", "2 0 2 | 1/1,.,.,. 2=a 1/1,.,.,.", "3 0 | 1/1,.,.,. 1/2,.,.,. 1=a"} {
		for _, one := range changedCows(cowIn(text)) {
			for _, two := range changedCows(one) {
				c.count(checkGoodCow(t, two))
			}
		}
	}
	c.wantBoth(t, 200, 5000)
}

// fewCells are all that may or may not stand in a list of three.
func fewCells() []impl.Cell {
	var l []impl.Cell
	for _, word := range []string{
		"-", "1=a", "2=a", "3=a", "0=a", "1", "1/1,.,.,.", "1/2,.,.,.", "1/1,.,2,.", "1/1,1,.,.", "1/0,.,.,.", "2/2,.,.,.", "2/1,.,.,.", "1/.,.,.,.", "0/1,.,.,.", "1/1,.,.", "1/3,.,.,.",
	} {
		l = append(l, cellIn(word))
	}
	return l
}

func TestCowsOfFewCellsInAllWays(t *testing.T) {
	good := 0
	for many := range 4 {
		for _, cells := range rowsOf(many, fewCells()...) {
			for _, roots := range [][]int{{-1}, {0}, {0, 0}, {0, 1}, {2, -1}} {
				for levels := 1; levels <= 3; levels++ {
					c := impl.Cow{Cells: cells, Roots: roots, Levels: levels}
					if checkGoodCow(t, c) {
						good++
					}
				}
			}
		}
	}
	if good < 40 {
		t.Errorf("%d were good", good)
	}
}

func spoiltCell() impl.Cell {
	return impl.Cell{Count: -9, Leaf: "spoilt", Kids: []int{-9}}
}

// roomyCow has room behind each of its lists, with what is none of the list in it.
func roomyCow(text string) impl.Cow {
	c := cowIn(text)
	for i, x := range c.Cells {
		c.Cells[i].Kids = withRoom(x.Kids, 77, 78)
	}
	c.Cells = withRoom(c.Cells, impl.Cell{Count: 77, Leaf: "behind"}, impl.Cell{Count: 78, Leaf: "behind"})
	c.Roots = withRoom(c.Roots, 77, 78)
	return c
}

func numbersOfCow(c impl.Cow) [][]int {
	l := [][]int{c.Roots}
	for _, x := range c.Cells {
		l = append(l, x.Kids)
	}
	return l
}

// wantRoomyCow: no list was written into, also behind its length.
func wantRoomyCow(t *testing.T, what string, c impl.Cow, text string) {
	t.Helper()
	fresh := roomyCow(text)
	if len(c.Cells) != len(fresh.Cells) || !slices.EqualFunc(wholeOf(c.Cells), wholeOf(fresh.Cells), sameCell) {
		t.Fatalf("%s: written into: %v", what, wholeOf(c.Cells))
	}
	wantAsFresh(t, what, numbersOfCow(c), numbersOfCow(fresh))
}

// wantCowApart: each list of an answer is its own.
func wantCowApart(t *testing.T, what string, c impl.Cow, text string, answer impl.Cow) {
	t.Helper()
	for _, x := range wholeOf(answer.Cells) {
		if x.Count >= 77 {
			t.Fatalf("%s: a cell from behind a length", what)
		}
	}
	wantRoomyCow(t, what, c, text)
	held, lists := copyCow(answer), numbersOfCow(c)
	spoil(c.Cells, spoiltCell())
	if !sameCow(answer, held) {
		t.Fatalf("%s, the cells of the argument spoilt: got %v, want %v", what, answer, held)
	}
	copy(c.Cells[:cap(c.Cells)], wholeOf(roomyCow(text).Cells))
	for i, l := range lists[1:] {
		c.Cells[i].Kids = l
	}
	listsOfAnswer := numbersOfCow(answer)
	spoil(answer.Cells, spoiltCell())
	wantRoomyCow(t, what+", the cells of the answer spoilt", c, text)
	wantListsApart(t, what, lists, numbersOfCow(roomyCow(text)), listsOfAnswer, -9)
}

// stepsOnCows are done to some of the good cows and refused to others.
func stepsOnCows() map[string]func(c impl.Cow) (impl.Cow, bool) {
	l := map[string]func(c impl.Cow) (impl.Cow, bool){}
	for root := range 3 {
		for _, at := range []int{0, 1, 5, 15} {
			for _, leaf := range []string{"", "a", "new"} {
				l[fmt.Sprint("PutLeaf ", root, " ", at, " ", leaf)] = func(c impl.Cow) (impl.Cow, bool) { return impl.PutLeaf(c, root, at, leaf) }
			}
		}
		l[fmt.Sprint("TakePicture ", root)] = func(c impl.Cow) (impl.Cow, bool) { return impl.TakePicture(c, root) }
		l[fmt.Sprint("DropPicture ", root)] = func(c impl.Cow) (impl.Cow, bool) { return impl.DropPicture(c, root) }
	}
	return l
}

func TestCowAnswersAreNewMemory(t *testing.T) {
	told := map[string]int{}
	for _, text := range goodCowTexts() {
		for name, step := range stepsOnCows() {
			plain, isPlain := step(cowIn(text))
			c := roomyCow(text)
			got, ok := step(c)
			if ok != isPlain || !sameCow(got, plain) {
				t.Fatalf("%s of %s: what lies behind a length counts: got %v %v", name, text, got, ok)
			}
			wantRoomyCow(t, name, c, text)
			if ok {
				told[name]++
				wantCowApart(t, name+" of "+text, c, text, got)
			}
		}
	}
	for name := range stepsOnCows() {
		if told[name] < 2 {
			t.Errorf("%s told true %d times", name, told[name])
		}
	}
}

func TestQuestionsWriteIntoNoCow(t *testing.T) {
	for _, text := range goodCowTexts() {
		h := herdIn(text)
		h.Cow = roomyCow(text)
		for range 2 {
			checkHerd(t, h)
			for root := range h.Roots {
				leaves, _ := impl.LeavesOf(h.Cow, root)
				if slices.Contains(wholeOf(leaves), "behind") {
					t.Fatalf("LeavesOf of %s: a leaf from behind a length", text)
				}
				spoil(leaves, "spoilt")
			}
			wantRoomyCow(t, "asked", h.Cow, text)
		}
	}
}

// What is not good by its length alone is not made good by what lies behind it, nor the other way.
func TestListsOfCowsEndAtTheirLength(t *testing.T) {
	many := impl.Cow{Cells: make([]impl.Cell, 81)[:80], Roots: []int{-1}, Levels: 3}
	wantGoodCow(t, "80 cells, and one behind them", many, true)
	full := fullHerd(81).Cow
	full.Cells = full.Cells[:80]
	wantGoodCow(t, "a number of what lies behind the length", full, false)
	roots := cowIn("1 0 0 0 0 0 0 0 0 0 | 8=a")
	roots.Roots = roots.Roots[:8]
	wantGoodCow(t, "8 Roots, and one behind them", roots, true)
	got, ok := impl.TakePicture(roots, 0)
	wantNoCow(t, "TakePicture of 8 Roots", got, ok)
	roots.Roots = roots.Roots[:0]
	wantCowRefused(t, roots)
	short := cowIn("2 0 | 1/1,.,.,. 1=a")
	short.Cells[0].Kids = short.Cells[0].Kids[:3]
	wantCowRefused(t, short)
	long := cowIn("2 0 | 1/1,.,.,.,1 1=a")
	long.Cells[0].Kids = long.Cells[0].Kids[:4]
	wantGoodCow(t, "4 Kids, and one behind them", long, true)
	free := cowIn("2 0 | 1/1,.,.,. 1=a 0/1,.,.,.")
	free.Cells[2].Kids = free.Cells[2].Kids[:0]
	wantGoodCow(t, "a free cell, with numbers behind no Kids", free, true)
	got, ok = impl.PutLeaf(free, 0, 1, "b")
	wantCow(t, "PutLeaf into it", got, ok, cowIn("2 0 | 1/1,2,.,. 1=a 1=b"))
	none := cowIn("1 0 | 1=a")
	none.Cells = none.Cells[:0]
	wantCowRefused(t, none)
}

// Steps from one cow do not meet in its lists.
func TestTwoStepsFromOneCow(t *testing.T) {
	text := "2 0 0 | 2/1,.,.,. 1=a -"
	c := roomyCow(text)
	one, okOne := impl.PutLeaf(c, 0, 0, "b")
	two, okTwo := impl.PutLeaf(c, 1, 1, "c")
	three, okThree := impl.TakePicture(c, 0)
	four, okFour := impl.DropPicture(c, 0)
	five, okFive := impl.PutLeaf(c, 0, 0, "")
	six, okSix := impl.PutLeaf(c, 0, 0, "a")
	seven, okSeven := impl.PutLeaf(one, 0, 1, "d")
	wantCow(t, "the first", one, okOne, cowIn("2 2 0 | 1/1,.,.,. 1=a 1/3,.,.,. 1=b"))
	for _, l := range numbersOfCow(one) {
		spoil(l, -9)
	}
	spoil(one.Cells, spoiltCell())
	wantCow(t, "the second", two, okTwo, cowIn("2 0 2 | 1/1,.,.,. 2=a 1/1,3,.,. 1=c"))
	wantCow(t, "the third", three, okThree, cowIn("2 0 0 0 | 3/1,.,.,. 1=a -"))
	wantCow(t, "the fourth", four, okFour, cowIn("2 0 | 1/1,.,.,. 1=a -"))
	wantCow(t, "the fifth", five, okFive, cowIn("2 . 0 | 1/1,.,.,. 1=a - -"))
	wantCow(t, "the sixth", six, okSix, cowIn(text))
	wantCow(t, "the seventh", seven, okSeven, cowIn("2 2 0 | 1/1,.,.,. 1=a 1/3,4,.,. 1=b 1=d"))
	wantRoomyCow(t, "all seven", c, text)
}

func TestNewCowsShareNothing(t *testing.T) {
	one, _ := impl.NewCow(2)
	spoil(one.Roots, -9)
	spoil(one.Cells, spoiltCell())
	two, ok := impl.NewCow(2)
	wantCow(t, "the second", two, ok, cowIn("2 . |"))
}
