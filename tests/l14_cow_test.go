package tests

import (
	"fmt"
	"math"
	"slices"
	"strings"
	"testing"

	"loop.example/g00261/impl"
)

func TestConstantsOfCows(t *testing.T) {
	if impl.MaxCells != 80 || impl.MaxPictures != 8 || impl.Fan != 4 {
		t.Error("limits")
	}
}

func TestNewCow(t *testing.T) {
	for levels, places := range map[int]int{1: 1, 2: 4, 3: 16} {
		got, ok := impl.NewCow(levels)
		wantCow(t, "NewCow", got, ok, impl.Cow{Roots: []int{-1}, Levels: levels})
		wantLeaves(t, got, 0, make([]string, places))
		wantShared(t, got, 0, 0, 0)
		wantUsed(t, got, 0)
	}
	for _, levels := range []int{0, -1, 4, 5, math.MaxInt, math.MinInt} {
		got, ok := impl.NewCow(levels)
		wantNoCow(t, "NewCow", got, ok)
	}
}

func wantGoodCow(t *testing.T, what string, c impl.Cow, want bool) {
	t.Helper()
	if got := impl.GoodCow(c); got != want {
		t.Errorf("%s: GoodCow of %v: got %v", what, c, got)
	}
}

// wantGoodCows reads a row of cows, and what they have that counts.
func wantGoodCows(t *testing.T, want bool, texts map[string]string) {
	t.Helper()
	for what, text := range texts {
		wantGoodCow(t, what, cowIn(text), want)
	}
}

func TestGoodCowOfLevels(t *testing.T) {
	wantGoodCows(t, true, map[string]string{
		"1, empty": "1 . |", "2, empty": "2 . |", "3, empty": "3 . |", "1": "1 0 | 1=a", "2": "2 0 | 1/1,.,.,. 1=a", "3": "3 0 | 1/1,.,.,. 1/2,.,.,. 1=a",
	})
	wantGoodCows(t, false, map[string]string{
		"0": "0 . |", "0, with a leaf": "0 0 | 1=a", "-1": "-1 . |", "4, empty": "4 . |", "4": "4 0 | 1/1,.,.,. 1/2,.,.,. 1/3,.,.,. 1=a", "5": "5 . |",
		"1 of two": "1 0 | 1/1,.,.,. 1=a", "2 of one": "2 0 | 1=a", "2 of three": "2 0 | 1/1,.,.,. 1/2,.,.,. 1=a", "3 of one": "3 0 | 1=a", "3 of two": "3 0 | 1/1,.,.,. 1=a", "3 of four": "3 0 | 1/1,.,.,. 1/2,.,.,. 1/3,.,.,. 1=a",
		"no cow at all": "0 |",
	})
	empty := impl.Cow{Cells: []impl.Cell{{Count: 1, Leaf: "a", Kids: []int{}}, {Kids: []int{}}}, Roots: []int{0}, Levels: 1}
	wantGoodCow(t, "no Kids, no nil", empty, true)
	wantGoodCow(t, "no Cells, no nil", impl.Cow{Cells: []impl.Cell{}, Roots: []int{-1}, Levels: 2}, true)
}

func TestGoodCowOfAsManyCellsAsThereMayBe(t *testing.T) {
	for _, levels := range []int{1, 2, 3} {
		for cells := 78; cells <= 82; cells++ {
			free := impl.Cow{Cells: make([]impl.Cell, cells), Roots: []int{-1}, Levels: levels}
			wantGoodCow(t, fmt.Sprint(cells, " free cells"), free, cells <= 80)
		}
	}
	for cells := 78; cells <= 82; cells++ {
		wantGoodCow(t, fmt.Sprint(cells, " used cells"), fullHerd(cells).Cow, cells <= 80)
	}
	one := fullHerd(80).Cow
	one.Cells = append(one.Cells, impl.Cell{})
	wantGoodCow(t, "80 used cells and a free one", one, false)
}

func TestGoodCowOfRoots(t *testing.T) {
	for roots := range 11 {
		none := impl.Cow{Roots: slices.Repeat([]int{-1}, roots), Levels: 2}
		wantGoodCow(t, fmt.Sprint(roots, " empty roots"), none, roots >= 1 && roots <= 8)
		same := impl.Cow{Cells: []impl.Cell{{Count: roots, Leaf: "a"}}, Roots: make([]int, roots), Levels: 1}
		wantGoodCow(t, fmt.Sprint(roots, " roots"), same, roots >= 1 && roots <= 8)
	}
	wantGoodCow(t, "no Roots, no nil", impl.Cow{Roots: []int{}, Levels: 1}, false)
	wantGoodCow(t, "no Roots, a free cell", cowIn("1 | -"), false)
	for root := -3; root <= 4; root++ {
		c := cowIn("2 0 . | 1/1,.,.,. 1=a -")
		c.Roots[1] = root
		wantGoodCow(t, fmt.Sprint("the root ", root), c, root == -1)
		c.Cells[0].Count = 2
		wantGoodCow(t, fmt.Sprint("the root ", root, ", counted at 0"), c, root == 0)
		c.Cells[0].Count, c.Cells[1].Count = 1, 2
		wantGoodCow(t, fmt.Sprint("the root ", root, ", counted at 1"), c, false)
	}
	for _, root := range []int{-2, 1, math.MaxInt, math.MinInt, math.MinInt + 1} {
		wantGoodCow(t, "a root far away", impl.Cow{Roots: []int{root}, Levels: 1}, false)
		wantGoodCow(t, "a root far away, behind another", impl.Cow{Cells: []impl.Cell{{Count: 1, Leaf: "a"}}, Roots: []int{0, root}, Levels: 1}, false)
	}
	wantGoodCows(t, true, map[string]string{
		"two that share all": "2 0 0 | 2/1,.,.,. 1=a", "two that share a leaf": "2 0 2 | 1/1,.,.,. 2=a 1/.,1,.,.", "an empty one between": "1 1 . 0 | 1=a 1=b", "not in order": "1 2 0 1 | 1=a 1=b 1=c",
	})
	wantGoodCows(t, false, map[string]string{
		"a free cell": "1 0 | -", "a leaf below": "2 0 1 | 1/1,.,.,. 2=a", "of the middle level": "3 0 1 | 1/1,.,.,. 2/2,.,.,. 1=a", "a leaf of three levels": "3 0 2 | 1/1,.,.,. 1/2,.,.,. 2=a", "the middle level alone": "3 0 | 1/1,.,.,. 1=a",
	})
}

func TestGoodCowOfCounts(t *testing.T) {
	good := "3 0 0 5 | 2/1,.,3,. 2/2,.,.,. 2=a 1/.,.,4,2 1=b 1/.,.,.,1"
	wantGoodCow(t, "as they are", cowIn(good), true)
	for number := range cowIn(good).Cells {
		for _, by := range []int{-2, -1, 1, 2, math.MaxInt, math.MinInt} {
			c := cowIn(good)
			c.Cells[number].Count += by
			wantGoodCow(t, fmt.Sprint("the Count of ", number, " by ", by), c, false)
		}
	}
	wantGoodCows(t, true, map[string]string{
		"the same kid twice": "2 0 | 1/1,1,.,. 2=a", "the same kid four times": "2 0 | 1/1,1,1,1 4=a", "the same kids in two": "3 0 | 1/1,2,.,. 1/3,3,.,. 1/3,.,3,3 5=a", "once for a cell that is had twice": "2 0 0 | 2/1,.,.,. 1=a",
	})
	wantGoodCows(t, false, map[string]string{
		"the same kid counted once": "2 0 | 1/1,1,.,. 1=a", "the kid of one that is had twice counted twice": "2 0 0 | 2/1,.,.,. 2=a", "below 0": "1 . | -1", "below 0 with a leaf": "1 . | -1=a", "above 0, nothing else": "1 . | 1", "of a root": "1 0 | 1",
		"nobody has it": "1 . | 1=a", "nobody has it, beside another": "1 0 | 1=a 1=b", "nobody has these": "2 . | 1/1,.,.,. 1=a", "counted by what is not come to": "2 0 | 1/2,.,.,. 1/2,.,.,. 2=a", "counted by what counts 0": "2 0 | 1/2,.,.,. 0/2,.,.,. 2=a",
		"each other's kids": "2 . | 1/1,.,.,. 1/0,.,.,.", "each other's kids, beside a root": "2 2 | 1/1,.,.,. 1/0,.,.,. 1/3,.,.,. 1=a", "each other's kids, come to": "3 0 | 1/1,.,.,. 2/2,.,.,. 1/1,.,.,.", "each other's kids, the root": "2 0 | 2/1,.,.,. 1/0,.,.,.",
		"its own kid": "2 . | 1/0,.,.,.", "its own kid, the root": "2 0 | 2/0,.,.,.", "its own kid, come to": "3 0 | 1/1,.,.,. 2/1,.,.,.", "a ring of three": "3 . | 1/1,.,.,. 1/2,.,.,. 1/0,.,.,.", "a ring of three, the root": "3 0 | 2/1,.,.,. 1/2,.,.,. 1/0,.,.,.",
		"a ring with a leaf": "3 . | 1/1,2,.,. 1/0,2,.,. 2=a",
	})
}

func TestGoodCowOfFreeCells(t *testing.T) {
	wantGoodCows(t, true, map[string]string{
		"one": "1 . | -", "ahead": "1 1 | - 1=a", "between": "2 2 | 1=a - 1/0,.,.,.", "behind": "1 0 | 1=a - -",
	})
	wantGoodCows(t, false, map[string]string{
		"with a Leaf": "1 . | 0=a", "with a Leaf, beside another": "1 0 | 1=a 0=b", "with Kids that are none": "2 . | 0/.,.,.,.", "with Kids": "2 0 | 1/1,.,.,. 1=a 0/1,.,.,.", "with Kids, counted": "2 0 | 1/1,.,.,. 2=a 0/1,.,.,.",
		"with its own number": "2 . | 0/0,.,.,.", "with one Kid": "2 . | 0/.", "a root": "1 0 | -", "a kid": "2 0 | 1/1,.,.,. -", "a kid beside another": "2 0 | 1/1,2,.,. 1=a -", "a kid of the middle level": "3 0 | 1/1,.,.,. -", "a kid of a kid": "3 0 | 1/1,.,.,. 1/2,.,.,. -",
	})
}

func TestGoodCowOfLeaves(t *testing.T) {
	for long := range 12 {
		for _, levels := range []string{"1 0 | 1=", "2 1 | 1= 1/0,.,.,.", "3 2 | 1= 1/0,.,.,. 1/.,.,.,1"} {
			c := cowIn(levels)
			c.Cells[0].Leaf = strings.Repeat("x", long)
			wantGoodCow(t, fmt.Sprint("a leaf of ", long), c, long >= 1 && long <= 8)
		}
	}
	for _, leaf := range []string{"\x00", "\x00\x00\x00\x00\x00\x00\x00\x00", "\xff\xfe", " ", "éééé"} {
		wantGoodCow(t, "of any bytes", impl.Cow{Cells: []impl.Cell{{Count: 1, Leaf: leaf}}, Roots: []int{0}, Levels: 1}, true)
	}
	wantGoodCow(t, "nine bytes, five runes", impl.Cow{Cells: []impl.Cell{{Count: 1, Leaf: "ééééx"}}, Roots: []int{0}, Levels: 1}, false)
	for _, kids := range [][]int{{-1}, {-1, -1, -1, -1}, {1, -1, -1, -1}, {0, -1, -1, -1}, {-1, -1, -1}} {
		c := cowIn("1 0 1 | 1=a 1=b")
		c.Cells[0].Kids = kids
		wantGoodCow(t, "with Kids", c, false)
		if slices.Contains(kids, 1) {
			c.Cells[1].Count = 2
			wantGoodCow(t, "with Kids that count", c, false)
		}
		c = cowIn("2 1 | 1=a 1/0,.,.,.")
		c.Cells[0].Kids = kids
		wantGoodCow(t, "with Kids, of two levels", c, false)
	}
}

func TestGoodCowOfForks(t *testing.T) {
	wantGoodCows(t, true, map[string]string{
		"the first kid": "2 0 | 1/1,.,.,. 1=a", "the last kid": "2 0 | 1/.,.,.,1 1=a", "all kids": "2 0 | 1/1,2,3,4 1=a 1=b 1=c 1=d", "kids ahead of it": "2 4 | 1=a 1=b 1=c 1=d 1/3,1,2,0",
	})
	wantGoodCows(t, false, map[string]string{
		"with a Leaf": "2 0 | 1/1,.,.,. 1/2,.,.,.", "three Kids": "2 0 | 1/1,.,. 1=a", "five Kids": "2 0 | 1/1,.,.,.,. 1=a", "one Kid": "2 0 | 1/1 1=a", "eight Kids": "2 0 | 1/1,.,.,.,.,.,.,. 1=a",
		"no kid": "2 0 | 1/.,.,.,.", "no kid, below": "3 0 | 1/1,.,.,. 1/.,.,.,.", "no kid, beside another": "3 0 | 1/1,2,.,. 1/.,.,.,. 1/3,.,.,. 1=a", "three Kids, below": "3 0 | 1/1,.,.,. 1/2,.,. 1=a", "five Kids, below": "3 0 | 1/1,.,.,. 1/2,.,.,.,. 1=a",
		"a kid -2": "2 0 | 1/1,-2,.,. 1=a", "a kid -2 alone": "2 0 | 1/.,.,.,-2", "a kid behind all": "2 0 | 1/1,2,.,. 1=a", "a kid behind all, alone": "2 0 | 1/1,.,.,.", "a kid far away": "2 0 | 1/1,9223372036854775807,.,. 1=a", "a kid far below": "2 0 | 1/1,-9223372036854775808,.,. 1=a",
		"a kid of its own level": "3 0 | 1/1,.,.,. 1/2,.,.,. 1/3,.,.,. 1=a", "a kid of its own level beside others": "3 0 | 1/1,2,.,. 2/3,.,.,. 1/1,4,.,. 1=a 1=b", "a kid two levels below": "3 0 | 1/1,2,.,. 1/2,.,.,. 2=a", "a leaf below the highest of three": "3 0 | 1/1,.,.,. 1=a",
		"a root that is a kid of a root": "2 0 1 | 1/1,.,.,. 2/2,.,.,. 1=a",
	})
	for _, number := range []int{0, 1} {
		c := cowIn("3 0 | 1/1,.,.,. 1/2,.,.,. 1=a")
		c.Cells[number].Leaf = "a"
		wantGoodCow(t, "with a Leaf", c, false)
	}
}

// wantPut: the herd of before, and the numbers of the root and of the place, and what is put there.
func wantPut(t *testing.T, before string, root int, at int, leaf string, after string) {
	t.Helper()
	got, ok := impl.PutLeaf(cowIn(before), root, at, leaf)
	wantCow(t, fmt.Sprintf("PutLeaf of %s: %d, %d, %q", before, root, at, leaf), got, ok, cowIn(after))
	checkPut(t, herdIn(before), root, at, leaf)
}

func TestPutLeafWhereNothingLies(t *testing.T) {
	wantPut(t, "1 . |", 0, 0, "a", "1 0 | 1=a")
	wantPut(t, "2 . |", 0, 0, "a", "2 0 | 1/1,.,.,. 1=a")
	wantPut(t, "2 . |", 0, 3, "abcdefgh", "2 0 | 1/.,.,.,1 1=abcdefgh")
	wantPut(t, "2 0 | 1/1,.,.,. 1=a", 0, 2, "b", "2 0 | 1/1,.,2,. 1=a 1=b")
	wantPut(t, "3 . |", 0, 0, "a", "3 0 | 1/1,.,.,. 1/2,.,.,. 1=a")
	wantPut(t, "3 . |", 0, 6, "a", "3 0 | 1/.,1,.,. 1/.,.,2,. 1=a")
	wantPut(t, "3 . |", 0, 15, "a", "3 0 | 1/.,.,.,1 1/.,.,.,2 1=a")
	wantPut(t, "3 0 | 1/1,.,.,. 1/2,.,.,. 1=a", 0, 3, "b", "3 0 | 1/1,.,.,. 1/2,.,.,3 1=a 1=b")
	wantPut(t, "3 0 | 1/1,.,.,. 1/2,.,.,. 1=a", 0, 12, "b", "3 0 | 1/1,.,.,3 1/2,.,.,. 1=a 1/4,.,.,. 1=b")
	wantPut(t, "1 0 . | 1=a", 1, 0, "a", "1 0 1 | 1=a 1=a")
	wantPut(t, "2 0 . | 1/1,.,.,. 1=a", 1, 0, "b", "2 0 2 | 1/1,.,.,. 1=a 1/3,.,.,. 1=b")
	wantPut(t, "2 . . |", 1, 1, "b", "2 . 0 | 1/.,1,.,. 1=b")
}

func TestPutLeafWhereSomethingLies(t *testing.T) {
	wantPut(t, "1 0 | 1=a", 0, 0, "b", "1 0 | 1=b")
	wantPut(t, "2 0 | 1/1,.,.,. 1=a", 0, 0, "b", "2 0 | 1/1,.,.,. 1=b")
	wantPut(t, "3 0 | 1/.,1,.,. 1/.,.,2,3 1=a 1=b", 0, 6, "c", "3 0 | 1/.,1,.,. 1/.,.,2,3 1=c 1=b")
	wantPut(t, "2 0 2 | 1/1,.,.,. 1=a 1/3,.,.,. 1=a", 1, 0, "b", "2 0 2 | 1/1,.,.,. 1=a 1/3,.,.,. 1=b")
}

func TestPutLeafThatLiesThereAlready(t *testing.T) {
	for _, c := range []struct {
		text     string
		root, at int
		leaf     string
	}{
		{"1 . |", 0, 0, ""}, {"1 . | - -", 0, 0, ""}, {"1 0 | 1=a", 0, 0, "a"}, {"1 0 0 | 2=a", 1, 0, "a"}, {"2 . |", 0, 3, ""}, {"2 0 0 | 2/1,.,.,. 1=a", 1, 0, "a"}, {"2 0 0 | 2/1,.,.,. 1=a", 0, 1, ""},
		{"2 0 2 | 1/1,.,.,. 2=a 1/1,3,.,. 1=b", 1, 0, "a"}, {"2 0 2 | 1/1,.,.,. 2=a 1/1,3,.,. 1=b -", 1, 3, ""}, {"3 . |", 0, 15, ""}, {"3 0 0 | 2/.,1,.,. 1/.,.,2,. 1=a", 1, 6, "a"},
		{"3 0 0 | 2/.,1,.,. 1/.,.,2,. 1=a", 1, 7, ""}, {"3 0 0 | 2/.,1,.,. 1/.,.,2,. 1=a", 0, 0, ""}, {"2 0 | 1/1,1,.,. 2=a", 0, 1, "a"},
	} {
		wantPut(t, c.text, c.root, c.at, c.leaf, c.text)
	}
}

func TestPutLeafOfTheEmptyText(t *testing.T) {
	wantPut(t, "1 0 | 1=a", 0, 0, "", "1 . | -")
	wantPut(t, "2 0 | 1/1,2,.,. 1=a 1=b", 0, 0, "", "2 0 | 1/.,2,.,. - 1=b")
	wantPut(t, "2 0 | 1/.,1,.,. 1=b", 0, 1, "", "2 . | - -")
	wantPut(t, "3 0 | 1/1,.,.,. 1/2,3,.,. 1=a 1=b", 0, 1, "", "3 0 | 1/1,.,.,. 1/2,.,.,. 1=a -")
	wantPut(t, "3 0 | 1/1,3,.,. 1/2,.,.,. 1=a 1/.,4,.,. 1=b", 0, 5, "", "3 0 | 1/1,.,.,. 1/2,.,.,. 1=a - -")
	wantPut(t, "3 0 | 1/1,.,.,. 1/2,.,.,. 1=a", 0, 0, "", "3 . | - - -")
	wantPut(t, "3 0 3 | 1/1,.,.,. 1/2,.,.,. 1=a 1/4,.,.,. 1/5,.,.,. 1=a", 0, 0, "", "3 . 3 | - - - 1/4,.,.,. 1/5,.,.,. 1=a")
}

// What is shared is copied, the leaf with it, and copies that have nothing below them go again: their cells are free then.
func TestPutLeafOfWhatIsShared(t *testing.T) {
	wantPut(t, "1 0 0 | 2=a", 1, 0, "b", "1 0 1 | 1=a 1=b")
	wantPut(t, "1 0 0 | 2=a", 0, 0, "b", "1 1 0 | 1=a 1=b")
	wantPut(t, "1 0 0 0 | 3=a", 1, 0, "b", "1 0 1 0 | 2=a 1=b")
	wantPut(t, "1 0 0 | 2=a", 1, 0, "", "1 0 . | 1=a -")
	all := "2 0 0 | 2/1,.,.,. 1=a"
	wantPut(t, all, 1, 0, "b", "2 0 2 | 1/1,.,.,. 1=a 1/3,.,.,. 1=b")
	wantPut(t, all, 0, 0, "b", "2 2 0 | 1/1,.,.,. 1=a 1/3,.,.,. 1=b")
	wantPut(t, all, 1, 1, "b", "2 0 2 | 1/1,.,.,. 2=a 1/1,3,.,. 1=b")
	wantPut(t, all, 1, 0, "", "2 0 . | 1/1,.,.,. 1=a - -")
	wantPut(t, "2 0 0 | 2/1,2,.,. 1=a 1=b", 1, 0, "", "2 0 3 | 1/1,2,.,. 1=a 2=b 1/.,2,.,. -")
	part := "2 0 2 | 1/1,.,.,. 2=a 1/1,3,.,. 1=b"
	wantPut(t, part, 1, 0, "c", "2 0 2 | 1/1,.,.,. 1=a 1/4,3,.,. 1=b 1=c")
	wantPut(t, part, 0, 0, "c", "2 0 2 | 1/4,.,.,. 1=a 1/1,3,.,. 1=b 1=c")
	wantPut(t, part, 1, 1, "c", "2 0 2 | 1/1,.,.,. 2=a 1/1,3,.,. 1=c")
	wantPut(t, part, 1, 2, "c", "2 0 2 | 1/1,.,.,. 2=a 1/1,3,4,. 1=b 1=c")
	wantPut(t, part, 1, 0, "", "2 0 2 | 1/1,.,.,. 1=a 1/.,3,.,. 1=b -")
	wantPut(t, part, 0, 0, "", "2 . 2 | - 1=a 1/1,3,.,. 1=b -")
	wantPut(t, part, 1, 1, "", "2 0 2 | 1/1,.,.,. 2=a 1/1,.,.,. -")
}

func TestPutLeafOfWhatIsSharedOfThreeLevels(t *testing.T) {
	all := "3 0 0 | 2/.,1,3,. 1/.,2,.,. 1=five 1/.,4,.,. 1=nine"
	wantPut(t, all, 1, 5, "other", "3 0 5 | 1/.,1,3,. 1/.,2,.,. 1=five 2/.,4,.,. 1=nine 1/.,6,3,. 1/.,7,.,. 1=other")
	wantPut(t, all, 1, 6, "six", "3 0 5 | 1/.,1,3,. 1/.,2,.,. 2=five 2/.,4,.,. 1=nine 1/.,6,3,. 1/.,2,7,. 1=six")
	wantPut(t, all, 0, 0, "zero", "3 5 0 | 1/.,1,3,. 2/.,2,.,. 1=five 2/.,4,.,. 1=nine 1/6,1,3,. 1/7,.,.,. 1=zero")
	wantPut(t, all, 1, 5, "", "3 0 5 | 1/.,1,3,. 1/.,2,.,. 1=five 2/.,4,.,. 1=nine 1/.,.,3,. - -")
	wantPut(t, "3 0 0 | 2/1,.,.,. 1/2,.,.,. 1=a", 0, 0, "", "3 . 0 | 1/1,.,.,. 1/2,.,.,. 1=a - - -")
	high := "3 0 5 | 1/.,1,3,. 1/.,2,.,. 1=five 2/.,4,.,. 1=nine 1/.,6,3,. 1/.,7,.,. 1=other"
	wantPut(t, high, 1, 8, "x", "3 0 5 | 1/.,1,3,. 1/.,2,.,. 1=five 1/.,4,.,. 2=nine 1/.,6,8,. 1/.,7,.,. 1=other 1/9,4,.,. 1=x")
	wantPut(t, high, 1, 9, "x", "3 0 5 | 1/.,1,3,. 1/.,2,.,. 1=five 1/.,4,.,. 1=nine 1/.,6,8,. 1/.,7,.,. 1=other 1/.,9,.,. 1=x")
	wantPut(t, high, 1, 9, "", "3 0 5 | 1/.,1,3,. 1/.,2,.,. 1=five 1/.,4,.,. 1=nine 1/.,6,.,. 1/.,7,.,. 1=other - -")
	wantPut(t, high, 1, 5, "", "3 0 5 | 1/.,1,3,. 1/.,2,.,. 1=five 2/.,4,.,. 1=nine 1/.,.,3,. - -")
}

// A cell may have the same kid more than once, and a root come to a cell by two ways.
func TestPutLeafOfWhatOneRootHasTwice(t *testing.T) {
	wantPut(t, "2 0 | 1/1,1,.,. 2=a", 0, 0, "b", "2 0 | 1/2,1,.,. 1=a 1=b")
	wantPut(t, "2 0 | 1/1,1,.,. 2=a", 0, 1, "", "2 0 | 1/1,.,.,. 1=a -")
	wantPut(t, "2 0 0 | 2/1,1,.,. 2=a", 0, 0, "b", "2 2 0 | 1/1,1,.,. 3=a 1/3,1,.,. 1=b")
	wantPut(t, "3 0 | 1/1,1,.,. 2/2,2,.,. 2=a", 0, 5, "b", "3 0 | 1/1,3,.,. 1/2,2,.,. 3=a 1/2,4,.,. 1=b")
	wantPut(t, "3 0 | 1/1,.,2,. 1/3,.,.,. 1/.,.,.,3 2=a", 0, 11, "", "3 0 | 1/1,.,.,. 1/3,.,.,. - 1=a -")
}

// New cells have the least free numbers, from above down, and then those behind all.
func TestPutLeafTakesTheLeastFreeNumbers(t *testing.T) {
	wantPut(t, "1 . | - -", 0, 0, "a", "1 0 | 1=a -")
	wantPut(t, "1 . 1 | - 1=a", 0, 0, "b", "1 0 1 | 1=b 1=a")
	wantPut(t, "2 . | -", 0, 0, "a", "2 0 | 1/1,.,.,. 1=a")
	wantPut(t, "3 . | - - - -", 0, 5, "x", "3 0 | 1/.,1,.,. 1/.,2,.,. 1=x -")
	wantPut(t, "3 . 2 | - - 1/4,.,.,. - 1/6,.,.,. - 1=a -", 0, 5, "x", "3 0 2 | 1/.,1,.,. 1/.,3,.,. 1/4,.,.,. 1=x 1/6,.,.,. - 1=a -")
	wantPut(t, "2 3 | - - - 1/4,.,.,. 1=a", 0, 2, "b", "2 3 | 1=b - - 1/4,.,0,. 1=a")
	wantPut(t, "2 0 0 | 2/2,.,.,. - 1=a -", 1, 0, "b", "2 0 1 | 1/2,.,.,. 1/3,.,.,. 1=a 1=b")
	wantPut(t, "2 0 0 | 2/2,.,.,. - 1=a", 1, 0, "b", "2 0 1 | 1/2,.,.,. 1/3,.,.,. 1=a 1=b")
	wantPut(t, "2 0 0 | 2/2,.,.,. - 1=a", 1, 0, "", "2 0 . | 1/2,.,.,. - 1=a -")
	wantPut(t, "2 0 0 | 2/2,.,.,. - 1=a - -", 1, 0, "", "2 0 . | 1/2,.,.,. - 1=a - -")
	wantPut(t, "3 2 2 | - 1=a 2/5,.,.,. - - 1/1,.,.,. -", 0, 1, "b", "3 0 2 | 1/3,.,.,. 2=a 1/5,.,.,. 1/1,4,.,. 1=b 1/1,.,.,. -")
}

func TestPutLeafIsRefused(t *testing.T) {
	for _, text := range []string{"1 0 . | 1=a", "2 . 0 | 1/1,.,.,. 1=a", "3 0 0 | 2/1,.,.,. 1/2,.,.,. 1=a"} {
		h := herdIn(text)
		for _, root := range []int{-1, -2, 2, 3, math.MaxInt, math.MinInt} {
			for _, leaf := range []string{"", "a", "b"} {
				got, ok := impl.PutLeaf(h.Cow, root, 0, leaf)
				wantNoCow(t, "PutLeaf of such a root", got, ok)
			}
		}
		for _, at := range []int{-1, -2, h.places(), h.places() + 1, math.MaxInt, math.MinInt} {
			for root := range h.Roots {
				for _, leaf := range []string{"", "a", "b"} {
					got, ok := impl.PutLeaf(h.Cow, root, at, leaf)
					wantNoCow(t, "PutLeaf of such a place", got, ok)
				}
			}
		}
		for root := range h.Roots {
			checkPut(t, h, root, h.places()-1, "last")
			checkPut(t, h, root, 0, "8 bytes.")
			for _, leaf := range []string{"9 bytes..", strings.Repeat("a", 100000), "ééééx"} {
				got, ok := impl.PutLeaf(h.Cow, root, 0, leaf)
				wantNoCow(t, "PutLeaf of a long leaf", got, ok)
			}
		}
	}
}

// wantPuts tells of puts at one root whether there are too many cells.
func wantPuts(t *testing.T, h *herd, root int, want bool, places []int, leaves ...string) {
	t.Helper()
	for _, at := range places {
		for _, leaf := range leaves {
			checkPut(t, h, root, at, leaf)
			if _, ok := impl.PutLeaf(h.Cow, root, at, leaf); ok != want {
				t.Errorf("%d cells, %d of them used: %d, %d, %q: told %v", len(h.Cells), h.used(), root, at, leaf, ok)
			}
		}
	}
}

func TestPutLeafWithAsManyCellsAsThereMayBe(t *testing.T) {
	h := herdIn("3 . . |")
	for at := range 16 {
		h.put(0, at, "a")
	}
	for root := 2; root <= 4; root++ {
		h.Roots = append(h.Roots, -1)
		for at := range 16 {
			if root < 4 || at%4 < 3 {
				h.put(root, at, "a")
			}
		}
	}
	if len(h.Cells) != 80 || h.used() != 80 {
		t.Fatalf("%d cells", len(h.Cells))
	}
	wantPuts(t, h, 0, true, []int{0, 7, 15}, "b", "", "a")
	wantPuts(t, h, 4, true, []int{0, 6, 14}, "b", "", "a")
	wantPuts(t, h, 4, false, []int{3, 7, 15}, "a", "b")
	wantPuts(t, h, 4, true, []int{3, 7, 15}, "")
	wantPuts(t, h, 1, false, []int{0, 15}, "a", "b")
	wantPuts(t, h, 1, true, []int{0, 15}, "")
	h = checkTake(t, h, 0)
	wantPuts(t, h, 0, false, []int{0, 15}, "b", "")
	wantPuts(t, h, 5, false, []int{0, 15}, "b", "")
	wantPuts(t, h, 0, true, []int{0, 15}, "a")
	for free := 1; free <= 3; free++ {
		h = checkPut(t, h, 2, 4*free, "")
		if len(h.Cells) != 80 || h.used() != 80-free {
			t.Fatalf("%d cells, %d of them used", len(h.Cells), h.used())
		}
		wantPuts(t, h, 5, free == 3, []int{0, 15}, "b", "")
		wantPuts(t, h, 1, free == 3, []int{0, 15}, "b")
		wantPuts(t, h, 4, true, []int{3, 7, 15}, "b")
	}
}

// Copies count that go again: where a root with one leaf is shared there must be room for as many cells as lie on the way to it.
func TestPutLeafOfTheEmptyTextWhereCopiesGoAgain(t *testing.T) {
	for cells := 75; cells <= 80; cells++ {
		h := fullHerd(cells - 3)
		h.Roots = append(h.Roots, -1)
		h.put(4, 5, "a")
		h.take(4)
		wantPuts(t, h, 4, cells+3 <= 80, []int{5}, "", "b")
		wantPuts(t, h, 5, cells+3 <= 80, []int{5}, "", "b")
		wantPuts(t, h, 5, true, []int{5}, "a")
		for free := 1; free <= 3; free++ {
			h.put(1, free, "")
			wantPuts(t, h, 5, cells+3-free <= 80, []int{5}, "", "b")
		}
		next, ok := impl.PutLeaf(h.Cow, 5, 5, "")
		wantCow(t, "emptied", next, ok, func() impl.Cow {
			want := h.copied()
			want.Cells[want.Roots[5]].Count--
			want.Roots[5] = -1
			return want.Cow
		}())
	}
}

// The leaf alone is shared: its copy goes again, and counts nevertheless.
func TestPutLeafOfTheEmptyTextWhereTheLeafAloneIsShared(t *testing.T) {
	for cells := 77; cells <= 80; cells++ {
		h := fullHerd(cells - 5)
		h.Roots = append(h.Roots, -1)
		h.put(4, 5, "a")
		h.take(4)
		h.put(4, 6, "b")
		h.put(4, 6, "")
		if len(h.Cells) != cells+1 || h.Cells[h.Roots[4]].Count != 1 {
			t.Fatalf("%d cells", len(h.Cells))
		}
		h.Cells = h.Cells[:cells]
		wantPuts(t, h, 4, cells < 80, []int{5}, "", "b")
		wantPuts(t, h, 5, cells < 80, []int{5}, "", "b")
		if cells == 80 {
			h.put(0, 3, "")
			wantPuts(t, h, 4, true, []int{5}, "", "b")
		}
	}
}

func TestLeafAtByHand(t *testing.T) {
	for text, leaves := range map[string]map[int]string{
		"1 . |": {}, "1 0 | 1=a": {0: "a"}, "2 . |": {}, "2 0 | 1/1,.,2,. 1=a 1=b": {0: "a", 2: "b"}, "2 2 | 1=a 1=b 1/.,1,.,0": {1: "b", 3: "a"}, "2 0 | 1/.,1,1,. 2=a": {1: "a", 2: "a"},
		"3 . | -": {}, "3 0 | 1/.,1,.,3 1/.,.,2,. 1=six 1/4,.,.,5 1=twelve 1=fifteen": {6: "six", 12: "twelve", 15: "fifteen"}, "3 0 | 1/1,.,1,. 2/2,3,.,. 1=a 1=b": {0: "a", 1: "b", 8: "a", 9: "b"},
	} {
		h := herdIn(text)
		var all []string
		for at := range h.places() {
			wantLeaf(t, h.Cow, 0, at, leaves[at])
			all = append(all, leaves[at])
		}
		wantLeaves(t, h.Cow, 0, all)
		for _, at := range []int{-1, h.places(), h.places() + 1, math.MaxInt, math.MinInt} {
			wantNoLeaf(t, h.Cow, 0, at)
		}
		for _, root := range []int{-1, 1, math.MaxInt, math.MinInt} {
			wantNoLeaf(t, h.Cow, root, 0)
			wantNoLeaves(t, h.Cow, root)
		}
	}
	c := cowIn("2 0 . 2 | 1/1,.,.,. 2=a 1/.,1,.,.")
	wantLeaves(t, c, 0, []string{"a", "", "", ""})
	wantLeaves(t, c, 1, []string{"", "", "", ""})
	wantLeaves(t, c, 2, []string{"", "a", "", ""})
}

// Each place has a leaf of its own, so that the digits of each are told apart.
func TestLeavesLieInTheOrderOfTheirPlaces(t *testing.T) {
	for levels, places := range map[int]int{1: 1, 2: 4, 3: 16} {
		c, _ := impl.NewCow(levels)
		want := make([]string, places)
		for i := range places {
			at := i * 7 % places
			want[at] = fmt.Sprint("at ", at)
			next, ok := impl.PutLeaf(c, 0, at, want[at])
			if !ok {
				t.Fatalf("the place %d of %d is refused", at, places)
			}
			c = next
			wantLeaves(t, c, 0, want)
			for i, leaf := range want {
				wantLeaf(t, c, 0, i, leaf)
			}
		}
	}
}

func TestTakePictureByHand(t *testing.T) {
	for _, c := range []struct {
		before string
		root   int
		after  string
	}{
		{"1 . |", 0, "1 . . |"}, {"3 . . | -", 1, "3 . . . | -"}, {"1 0 | 1=a", 0, "1 0 0 | 2=a"}, {"2 0 | 1/1,.,.,. 1=a", 0, "2 0 0 | 2/1,.,.,. 1=a"}, {"2 0 . | 1/1,.,.,. 1=a", 1, "2 0 . . | 1/1,.,.,. 1=a"}, {"1 0 1 | 1=a 1=b", 0, "1 0 1 0 | 2=a 1=b"},
		{"2 0 2 | 1/1,.,.,. 2=a 1/1,.,.,. -", 1, "2 0 2 2 | 1/1,.,.,. 2=a 2/1,.,.,. -"}, {"3 0 0 | 2/1,.,.,. 1/2,.,.,. 1=a", 1, "3 0 0 0 | 3/1,.,.,. 1/2,.,.,. 1=a"}, {"1 0 0 0 0 0 0 0 | 7=a", 3, "1 0 0 0 0 0 0 0 0 | 8=a"},
	} {
		got, ok := impl.TakePicture(cowIn(c.before), c.root)
		wantCow(t, "TakePicture of "+c.before, got, ok, cowIn(c.after))
		checkTake(t, herdIn(c.before), c.root)
	}
	for _, text := range []string{"1 0 0 0 0 0 0 0 0 | 8=a", "2 . . . . . . . . |", "3 . . . . . . . 0 | 1/1,.,.,. 1/2,.,.,. 1=a"} {
		for root := range 8 {
			got, ok := impl.TakePicture(cowIn(text), root)
			wantNoCow(t, "TakePicture of 8 Roots", got, ok)
			h := checkDrop(t, herdIn(text), root)
			checkTake(t, h, 6)
		}
	}
	for _, root := range []int{-1, -2, 2, 3, math.MaxInt, math.MinInt} {
		got, ok := impl.TakePicture(cowIn("1 0 . | 1=a"), root)
		wantNoCow(t, "TakePicture of such a root", got, ok)
	}
	h := fullHerd(80)
	checkTake(t, h, 0)
	checkTake(t, h, 3)
}

func TestDropPictureByHand(t *testing.T) {
	for _, c := range []struct {
		before string
		root   int
		after  string
	}{
		{"1 . . |", 0, "1 . |"}, {"1 0 . | 1=a", 1, "1 0 | 1=a"}, {"1 0 . | 1=a", 0, "1 . | -"}, {"1 0 0 | 2=a", 0, "1 0 | 1=a"}, {"1 0 1 2 | 1=a 1=b 1=c", 1, "1 0 2 | 1=a - 1=c"},
		{"2 0 0 | 2/1,.,.,. 1=a", 1, "2 0 | 1/1,.,.,. 1=a"}, {"2 0 2 | 1/1,.,.,. 1=a 1/3,.,.,. 1=b", 0, "2 2 | - - 1/3,.,.,. 1=b"}, {"2 0 2 | 1/1,.,.,. 1=a 1/3,.,.,. 1=b", 1, "2 0 | 1/1,.,.,. 1=a - -"},
		{"2 0 2 | 1/1,.,.,. 2=a 1/1,3,.,. 1=b", 0, "2 2 | - 1=a 1/1,3,.,. 1=b"}, {"2 0 2 | 1/1,.,.,. 2=a 1/1,3,.,. 1=b", 1, "2 0 | 1/1,.,.,. 1=a - -"}, {"2 0 . | 1/1,1,.,. 2=a", 0, "2 . | - -"},
		{"3 0 5 | 1/.,1,3,. 1/.,2,.,. 1=five 2/.,4,.,. 1=nine 1/.,6,3,. 1/.,7,.,. 1=other", 0, "3 5 | - - - 1/.,4,.,. 1=nine 1/.,6,3,. 1/.,7,.,. 1=other"},
		{"3 0 5 | 1/.,1,3,. 1/.,2,.,. 1=five 2/.,4,.,. 1=nine 1/.,6,3,. 1/.,7,.,. 1=other", 1, "3 0 | 1/.,1,3,. 1/.,2,.,. 1=five 1/.,4,.,. 1=nine - - -"},
		{"3 0 3 | 1/1,.,.,. 1/2,.,.,. 2=a 1/.,4,.,. 1/.,2,.,.", 0, "3 3 | - - 1=a 1/.,4,.,. 1/.,2,.,."}, {"3 . 0 | 1/1,1,.,. 2/2,2,.,. 2=a", 1, "3 . | - - -"},
	} {
		got, ok := impl.DropPicture(cowIn(c.before), c.root)
		wantCow(t, "DropPicture of "+c.before, got, ok, cowIn(c.after))
		checkDrop(t, herdIn(c.before), c.root)
	}
	for _, text := range []string{"1 . |", "1 0 | 1=a", "2 . | -", "2 0 | 1/1,.,.,. 1=a", "3 0 | 1/1,.,.,. 1/2,.,.,. 1=a"} {
		got, ok := impl.DropPicture(cowIn(text), 0)
		wantNoCow(t, "DropPicture of the only root", got, ok)
	}
	for _, root := range []int{-1, -2, 2, 3, math.MaxInt, math.MinInt} {
		got, ok := impl.DropPicture(cowIn("1 0 . | 1=a"), root)
		wantNoCow(t, "DropPicture of such a root", got, ok)
	}
	checkLast(t, fullHerd(80))
}

func TestSharedByByHand(t *testing.T) {
	c := cowIn("3 0 5 . 0 8 | 2/.,1,3,. 1/.,2,.,. 1=five 2/.,4,.,. 2=nine 1/.,6,3,. 1/.,7,.,. 1=other 1/.,9,.,. 1/.,.,.,4 - -")
	wantGoodCow(t, "five roots", c, true)
	for a, row := range [][]int{{5, 2, 0, 5, 1}, {2, 5, 0, 2, 1}, {0, 0, 0, 0, 0}, {5, 2, 0, 5, 1}, {1, 1, 0, 1, 3}} {
		for b, want := range row {
			wantShared(t, c, a, b, want)
		}
	}
	wantShared(t, cowIn("1 0 1 | 1=a 1=a"), 0, 1, 0)
	wantShared(t, cowIn("1 0 0 | 2=a"), 0, 1, 1)
	wantShared(t, cowIn("2 0 | 1/1,1,1,1 4=a"), 0, 0, 2)
	for _, root := range []int{-1, -2, 5, 6, math.MaxInt, math.MinInt} {
		for other := -1; other <= 5; other++ {
			wantNotShared(t, c, root, other)
			wantNotShared(t, c, other, root)
		}
		wantNotShared(t, c, root, root)
	}
}

func TestUsedCellsByHand(t *testing.T) {
	for text, want := range map[string]int{
		"1 . |": 0, "1 . | - - -": 0, "1 0 | 1=a": 1, "1 1 | - 1=a -": 1, "1 0 0 0 | 3=a": 1, "2 0 | 1/1,.,.,. 1=a": 2, "2 3 | - 2=a - 1/1,1,.,4 1=b": 3, "2 0 2 | 1/1,.,.,. 2=a 1/1,3,.,. 1=b -": 4, "3 0 | 1/1,.,.,. 1/2,.,.,. 1=a -": 3,
	} {
		wantUsed(t, cowIn(text), want)
	}
	wantUsed(t, fullHerd(80).Cow, 80)
	wantUsed(t, impl.Cow{Cells: make([]impl.Cell, 80), Roots: []int{-1}, Levels: 3}, 0)
}
