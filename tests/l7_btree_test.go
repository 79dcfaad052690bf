package tests

import (
	"math"
	"slices"
	"testing"

	"loop.example/g00261/impl"
)

func TestConstantsOfTrees(t *testing.T) {
	if impl.LeastKeys != 2 || impl.MostKeys != 5 || impl.MaxTreeKeys != 200 {
		t.Error("LeastKeys, MostKeys and MaxTreeKeys are not 2, 5 and 200")
	}
}

func TestNewTreeIsALeafWithoutKeys(t *testing.T) {
	got := impl.NewTree()
	want := impl.Tree{Nodes: []impl.Node{{Leaf: true}}, Root: 0}
	if !sameTree(got, want) {
		t.Errorf("NewTree: got %v", got)
	}
	wantTree(t, "NewTree", got, true, &plant{})
}

func TestTheOrderOfNodes(t *testing.T) {
	want := impl.Tree{
		Nodes: []impl.Node{
			{Leaf: true, Keys: []int{1, 2}}, {Leaf: true, Keys: []int{4, 5}}, {Leaf: true, Keys: []int{7, 8}},
			{Keys: []int{3, 6}, Kids: []int{0, 1, 2}},
			{Leaf: true, Keys: []int{10, 11}}, {Leaf: true, Keys: []int{13, 14}}, {Leaf: true, Keys: []int{16, 17}},
			{Keys: []int{12, 15}, Kids: []int{4, 5, 6}},
			{Keys: []int{9}, Kids: []int{3, 7}},
		},
		Root: 8,
	}
	if !impl.GoodTree(want) {
		t.Error("kids ahead of their node, those of the first kid ahead of those of the second: not good")
	}
	// 18 goes from the last leaf again: the nodes are laid down as they were.
	more, ok := impl.InsertKey(want, 18)
	wantTree(t, "InsertKey", more, ok, plantIn("(((1 2)3(4 5)6(7 8))9((10 11)12(13 14)15(16 17 18)))"))
	got, ok := impl.RemoveKey(more, 18)
	if !ok || !sameTree(got, want) {
		t.Errorf("RemoveKey: got %v %v, want %v", got, ok, want)
	}
}

func TestGoodTrees(t *testing.T) {
	for _, text := range []string{
		"()", "(0)", "(1000000)", "(0 1000000)", "(1 2)", "(1 2 3 4 5)", "(0 1 2 3 4)", "(999996 999997 999998 999999 1000000)",
		"((1 2) 3 (4 5))", "((0 1) 2 (3 1000000))", "((1 2 3 4 5) 6 (7 8))", "((1 2) 3 (4 5 6 7 8))",
		"((1 2) 3 (4 5) 6 (7 8) 9 (10 11) 12 (13 14) 15 (16 17))",
		"((1 9) 10 (11 99) 100 (101 999))",
		"(((1 2)3(4 5)6(7 8))9((10 11)12(13 14)15(16 17)))",
	} {
		if !impl.GoodTree(treeIn(text)) {
			t.Errorf("%s is not good", text)
		}
	}
}

// fullTree has as many keys as a tree may have, or so many more; they are even, and 0 is none of them.
func fullTree(more int) impl.Tree {
	p := &plant{}
	for i := range 200 + more {
		p = p.put(2*i + 2)
	}
	return p.laid()
}

func TestATreeWithAllKeysItMayHave(t *testing.T) {
	full := fullTree(0)
	keys := plantOf(full).allKeys()
	wantTree(t, "a full tree", full, len(keys) == 200, plantOf(full))
	for _, key := range []int{0, 1, 3, 201, 399, 401, 1000000} {
		got, ok := impl.InsertKey(full, key)
		wantNoTree(t, "InsertKey into a full tree", got, ok)
		wantHas(t, full, key, false)
	}
	for _, key := range keys {
		less, ok := impl.RemoveKey(full, key)
		wantTree(t, "RemoveKey from a full tree", less, ok, plantOf(full).drop(key))
		again, ok := impl.InsertKey(less, key)
		wantTree(t, "InsertKey of the last that has room", again, ok, plantOf(less).put(key))
	}
	if impl.GoodTree(fullTree(1)) || !impl.GoodTree(fullTree(-1)) {
		t.Error("one key more is good, or one less is not")
	}
}

func TestInsertKeyByHand(t *testing.T) {
	for _, c := range []struct {
		what string
		from string
		key  int
		want string
	}{
		{"into an empty tree", "()", 7, "(7)"},
		{"the least", "()", 0, "(0)"},
		{"the greatest", "()", 1000000, "(1000000)"},
		{"the least ahead of all", "(1 2)", 0, "(0 1 2)"},
		{"the greatest behind all", "(1 2)", 1000000, "(1 2 1000000)"},
		{"into a leaf that is full then", "(1 2 4 5)", 3, "(1 2 3 4 5)"},
		{"behind a full leaf: number 3 goes up", "(1 2 3 4 5)", 6, "((1 2 3) 4 (5 6))"},
		{"ahead of a full leaf", "(2 3 4 5 6)", 1, "((1 2 3) 4 (5 6))"},
		{"the middle key itself", "(1 2 3 5 6)", 4, "((1 2 3) 4 (5 6))"},
		{"into the first kid", "((2 3) 4 (5 6))", 1, "((1 2 3) 4 (5 6))"},
		{"into the last kid", "((1 2) 3 (4 5))", 6, "((1 2) 3 (4 5 6))"},
		{"beside the key between, on its left", "((1 2) 5 (6 7))", 4, "((1 2 4) 5 (6 7))"},
		{"beside the key between, on its right", "((1 2) 5 (7 8))", 6, "((1 2) 5 (6 7 8))"},
		{"into a full kid at the left", "((1 2 3 4 5) 7 (8 9))", 6, "((1 2 3) 4 (5 6) 7 (8 9))"},
		{"into a full kid at the right", "((1 2) 3 (4 5 6 7 8))", 9, "((1 2) 3 (4 5 6) 7 (8 9))"},
		{"into a full kid in the midst", "((1 2) 3 (4 5 6 7 8) 10 (11 12))", 9, "((1 2) 3 (4 5 6) 7 (8 9) 10 (11 12))"},
		{"all full up to the root, at the front",
			"((2 3 4 5 6)7(8 9)10(11 12)13(14 15)16(17 18)19(20 21))", 1,
			"(((1 2 3)4(5 6)7(8 9)10(11 12)) 13 ((14 15)16(17 18)19(20 21)))"},
		{"all full up to the root, at the end",
			"((1 2)3(4 5)6(7 8)9(10 11)12(13 14)15(16 17 18 19 20))", 21,
			"(((1 2)3(4 5)6(7 8)9(10 11)) 12 ((13 14)15(16 17 18)19(20 21)))"},
		{"all full up to the root, what goes up goes on up",
			"((1 2)3(4 5)6(7 8)9(10 11 12 13 14)20(21 22)23(24 25))", 15,
			"(((1 2)3(4 5)6(7 8)9(10 11 12)) 13 ((14 15)20(21 22)23(24 25)))"},
	} {
		got, ok := impl.InsertKey(treeIn(c.from), c.key)
		wantTree(t, c.what, got, ok, plantIn(c.want))
	}
}

func TestInsertKeyRefuses(t *testing.T) {
	for _, text := range []string{"()", "(1 2 5)", "((1 2) 5 (7 9))"} {
		tree := treeIn(text)
		for _, key := range append([]int{-1, 1000001, math.MaxInt, math.MinInt}, plantIn(text).allKeys()...) {
			got, ok := impl.InsertKey(tree, key)
			wantNoTree(t, "InsertKey", got, ok)
		}
		for _, key := range []int{0, 3, 1000000} {
			got, ok := impl.InsertKey(tree, key)
			wantTree(t, "InsertKey", got, ok, plantIn(text).put(key))
		}
	}
}

func TestRemoveKeyByHand(t *testing.T) {
	for _, c := range []struct {
		what string
		from string
		key  int
		want string
	}{
		{"the last of all", "(7)", 7, "()"},
		{"from a lone leaf, which may be short", "(1 2)", 1, "(2)"},
		{"the least", "(0 1)", 0, "(1)"},
		{"the greatest", "(1 1000000)", 1000000, "(1)"},
		{"a leaf's key", "((1 2 3) 4 (5 6))", 2, "((1 3) 4 (5 6))"},
		{"no leaf's key: the greatest at its left", "((1 2 3) 4 (5 6))", 4, "((1 2) 3 (5 6))"},
		{"no leaf's key, though the right has more", "((1 2) 4 (5 6 7))", 4, "((1 2) 5 (6 7))"},
		{"the left lends", "((1 2 3) 4 (5 6))", 6, "((1 2) 3 (4 5))"},
		{"the left lends the greatest of many", "((1 2 3 4 5) 6 (7 8))", 7, "((1 2 3 4) 5 (6 8))"},
		{"the right lends", "((1 2) 3 (4 5 6))", 1, "((2 3) 4 (5 6))"},
		{"the right lends the least of many", "((1 2) 3 (4 5 6 7 8))", 2, "((1 3) 4 (5 6 7 8))"},
		{"both could: the left", "((1 2 3) 4 (5 6) 7 (8 9 10))", 5, "((1 2) 3 (4 6) 7 (8 9 10))"},
		{"both could, the right more: the left", "((1 2 3) 4 (5 6) 7 (8 9 10 11 12))", 5, "((1 2) 3 (4 6) 7 (8 9 10 11 12))"},
		{"the left can't: the right", "((1 2) 4 (5 6) 7 (8 9 10))", 5, "((1 2) 4 (6 7) 8 (9 10))"},
		{"only neighbours lend", "((1 2) 4 (5 6) 7 (8 9) 10 (11 12 13))", 5, "((1 2 4 6) 7 (8 9) 10 (11 12 13))"},
		{"neither can: joined with the left", "((1 2) 3 (4 5) 6 (7 8))", 4, "((1 2 3 5) 6 (7 8))"},
		{"the last is joined with the left", "((1 2) 3 (4 5) 6 (7 8))", 8, "((1 2) 3 (4 5 6 7))"},
		{"no left: joined with the right", "((1 2) 3 (4 5) 6 (7 8))", 2, "((1 3 4 5) 6 (7 8))"},
		{"a root without keys goes", "((1 2) 3 (4 5))", 4, "(1 2 3 5)"},
		{"a root without keys goes, by the left", "((1 2) 3 (4 5))", 1, "(2 3 4 5)"},
		{"the root's only key", "((1 2) 3 (4 5))", 3, "(1 2 4 5)"},
		{"the root's key, its kid is filled", "((0 1 2) 3 (4 5) 6 (7 8))", 6, "((0 1) 2 (3 4) 5 (7 8))"},
		{"the joining goes on up to the root",
			"(((1 2)3(4 5)6(7 8)) 9 ((10 11)12(13 14)15(16 17)))", 1,
			"((2 3 4 5)6(7 8)9(10 11)12(13 14)15(16 17))"},
		{"the joining goes on up to the root, from its other end",
			"(((1 2)3(4 5)6(7 8)) 9 ((10 11)12(13 14)15(16 17)))", 17,
			"((1 2)3(4 5)6(7 8)9(10 11)12(13 14 15 16))"},
		{"the root's key, from two levels below",
			"(((1 2)3(4 5)6(7 8)) 9 ((10 11)12(13 14)15(16 17)))", 9,
			"((1 2)3(4 5 6 7)8(10 11)12(13 14)15(16 17))"},
		{"joined, and the left lends a kid above",
			"(((1 2)3(4 5)6(7 8)9(10 11)) 12 ((13 14)15(16 17)18(19 20)))", 13,
			"(((1 2)3(4 5)6(7 8)) 9 ((10 11)12(14 15 16 17)18(19 20)))"},
		{"joined, and the right lends a kid above",
			"(((1 2)3(4 5)6(7 8)) 9 ((10 11)12(13 14)15(16 17)18(19 20)))", 8,
			"(((1 2)3(4 5 6 7)9(10 11)) 12 ((13 14)15(16 17)18(19 20)))"},
	} {
		got, ok := impl.RemoveKey(treeIn(c.from), c.key)
		wantTree(t, c.what, got, ok, plantIn(c.want))
	}
}

func TestRemoveKeyOfWhatIsNotThere(t *testing.T) {
	for _, text := range []string{"()", "(1 2 5)", "((1 2) 5 (7 9))", "(((1 2)5(6 7)9(10 11)) 12 ((13 14)15(16 17)18(19 20)))"} {
		for _, key := range []int{-1, 0, 3, 4, 8, 21, 1000000, 1000001, math.MaxInt, math.MinInt} {
			got, ok := impl.RemoveKey(treeIn(text), key)
			wantNoTree(t, "RemoveKey", got, ok)
		}
	}
}

func TestFromToAtTheEdges(t *testing.T) {
	for _, text := range []string{"()", "(5)", "(0 1000000)", "((1 2) 5 (7 9))", "(((1 2)5(6 7)9(10 11)) 12 ((13 14)15(16 17)18(19 20)))"} {
		tree, keys := treeIn(text), plantIn(text).allKeys()
		edges := append([]int{-1, 0, 3, 4, 8, 21, 22, 999999, 1000000, 1000001, math.MaxInt, math.MinInt}, keys...)
		for _, from := range edges {
			for _, to := range edges {
				got, ok := impl.FromTo(tree, from, to)
				wantKeys(t, "FromTo", got, ok, keysBetween(keys, from, to))
			}
		}
	}
	tree := treeIn("((1 2) 5 (7 9))")
	for _, c := range []struct {
		from, to int
		want     []int
	}{
		{2, 7, []int{2, 5}}, {2, 8, []int{2, 5, 7}}, {3, 6, []int{5}}, {5, 5, nil}, {5, 6, []int{5}}, {7, 2, nil}, {9, 9, nil},
		{10, 20, nil}, {-5, 1, nil}, {-5, 2, []int{1}}, {9, math.MaxInt, []int{9}}, {math.MinInt, math.MaxInt, []int{1, 2, 5, 7, 9}},
	} {
		got, ok := impl.FromTo(tree, c.from, c.to)
		wantKeys(t, "FromTo", got, ok, c.want)
	}
}

func TestHasKeyAndDepthOf(t *testing.T) {
	for _, c := range []struct {
		text   string
		key    int
		has    bool
		looked int
		depth  int
	}{
		{"()", 3, false, 1, 1}, {"(3)", 3, true, 1, 1}, {"(3)", 2, false, 1, 1}, {"(3)", -1, false, 1, 1}, {"(1 2 3 4 5)", 5, true, 1, 1},
		{"((1 2) 3 (4 5))", 3, true, 1, 2}, {"((1 2) 3 (4 5))", 1, true, 2, 2}, {"((1 2) 3 (4 5))", 5, true, 2, 2},
		{"((1 2) 3 (4 5))", 0, false, 2, 2}, {"((1 2) 3 (4 5))", 1000001, false, 2, 2}, {"((1 2) 3 (4 5))", math.MinInt, false, 2, 2},
		{"(((1 2)3(4 5)6(7 8)) 9 ((10 11)12(13 14)15(16 17)))", 9, true, 1, 3},
		{"(((1 2)3(4 5)6(7 8)) 9 ((10 11)12(13 14)15(16 17)))", 6, true, 2, 3},
		{"(((1 2)3(4 5)6(7 8)) 9 ((10 11)12(13 14)15(16 17)))", 14, true, 3, 3},
		{"(((1 2)3(4 5)6(7 8)) 9 ((10 11)12(13 14)15(16 17)))", 18, false, 3, 3},
	} {
		has, looked, ok := impl.HasKey(treeIn(c.text), c.key)
		if !ok || has != c.has || looked != c.looked {
			t.Errorf("HasKey %d of %s: got %v %d %v, want %v %d", c.key, c.text, has, looked, ok, c.has, c.looked)
		}
		depth, ok := impl.DepthOf(treeIn(c.text))
		wantNumber(t, "DepthOf "+c.text, depth, ok, c.depth)
	}
}

func TestTreeOf(t *testing.T) {
	for _, c := range []struct {
		keys []int
		want string
	}{
		{nil, "()"}, {[]int{}, "()"}, {[]int{7}, "(7)"}, {[]int{1000000, 0}, "(0 1000000)"}, {[]int{3, 1, 2, 5, 4}, "(1 2 3 4 5)"},
		{[]int{1, 2, 3, 4, 5, 6}, "((1 2 3) 4 (5 6))"},
		{[]int{6, 5, 4, 3, 2, 1}, "((1 2 3) 4 (5 6))"},
		{[]int{1, 2, 3, 4, 5, 6, 7, 8}, "((1 2 3) 4 (5 6 7 8))"},
		// The order of the keys tells: here the left leaf grows.
		{[]int{8, 7, 6, 5, 4, 3, 2, 1}, "((1 2 3 4 5) 6 (7 8))"},
		{[]int{9, 8, 7, 6, 5, 4, 3, 2, 1}, "((1 2 3) 4 (5 6) 7 (8 9))"},
	} {
		got, ok := impl.TreeOf(c.keys)
		wantTree(t, "TreeOf", got, ok, plantIn(c.want))
	}
	for _, keys := range [][]int{
		{1, 1}, {1, 2, 3, 1}, {1, 2, 3, 3}, {0, 0}, {-1}, {1000001}, {1, 2, -1}, {1, 2, 1000001, 3}, {math.MinInt}, {5, math.MaxInt},
		{1, 2, 3, 4, 5, 6, 7, 4}, {1, 2, 3, 4, 5, 6, 7, 1},
	} {
		got, ok := impl.TreeOf(keys)
		wantNoTree(t, "TreeOf", got, ok)
	}
}

func TestTreeOfAllKeysThereMayBe(t *testing.T) {
	s := steps(8)
	all := someOrder(&s, 202)
	p := &plant{}
	for _, key := range all[:200] {
		p = p.put(key)
	}
	got, ok := impl.TreeOf(all[:200])
	wantTree(t, "TreeOf 200 keys", got, ok, p)
	for _, l := range [][]int{all[:201], all, append(slices.Clone(all[:200]), all[0]), append(slices.Clone(all[:199]), all[0])} {
		got, ok := impl.TreeOf(l)
		wantNoTree(t, "TreeOf keys too many or alike", got, ok)
	}
}
