package tests

import (
	"math"
	"slices"
	"testing"

	"loop.example/g00261/impl"
)

func leafWith(keys ...int) impl.Node {
	return impl.Node{Leaf: true, Keys: keys}
}

func forkWith(kids []int, keys ...int) impl.Node {
	return impl.Node{Keys: keys, Kids: kids}
}

func treeWith(nodes ...impl.Node) impl.Tree {
	return impl.Tree{Nodes: nodes, Root: len(nodes) - 1}
}

func copyTree(t impl.Tree) impl.Tree {
	out := impl.Tree{Nodes: slices.Clone(t.Nodes), Root: t.Root}
	for i, n := range out.Nodes {
		out.Nodes[i].Keys, out.Nodes[i].Kids = slices.Clone(n.Keys), slices.Clone(n.Kids)
	}
	return out
}

// treeByTrial goes down from the root by the words of the chapter, and marks the order in which nodes should stand.
type treeByTrial struct {
	tree   impl.Tree
	order  []int
	depths []int
	keys   int
}

// goodBelow: least and most are the keys at both sides.
func (g *treeByTrial) goodBelow(number int, depth int, least int, most int) bool {
	if number < 0 || number >= len(g.tree.Nodes) || depth > len(g.tree.Nodes) || len(g.order) > len(g.tree.Nodes) {
		return false
	}
	n := g.tree.Nodes[number]
	isRoot := number == g.tree.Root
	if len(n.Keys) > 5 || !isRoot && len(n.Keys) < 2 || isRoot && !n.Leaf && len(n.Keys) < 1 {
		return false
	}
	borders := append(append([]int{least}, n.Keys...), most)
	for i := 1; i < len(borders); i++ {
		if borders[i-1] >= borders[i] {
			return false
		}
	}
	g.keys += len(n.Keys)
	if n.Leaf {
		g.depths = append(g.depths, depth)
	}
	if n.Leaf && len(n.Kids) > 0 || !n.Leaf && len(n.Kids) != len(n.Keys)+1 {
		return false
	}
	for i, kid := range n.Kids {
		if !g.goodBelow(kid, depth+1, borders[i], borders[i+1]) {
			return false
		}
	}
	g.order = append(g.order, number)
	return true
}

func goodTreeByTrial(t impl.Tree) bool {
	g := treeByTrial{tree: t}
	if !g.goodBelow(t.Root, 1, -1, 1000001) || g.keys > 200 || len(g.order) != len(t.Nodes) {
		return false
	}
	for i, number := range g.order {
		if number != i {
			return false
		}
	}
	return slices.Min(g.depths) == slices.Max(g.depths)
}

// badTrees are not as said, each in one way.
func badTrees() map[string]impl.Tree {
	l := map[string]impl.Tree{
		"nothing": {}, "no nodes": {Root: -1}, "no nodes, root 1": {Root: 1},
		"root negative": {Nodes: treeIn("((1 2) 3 (4 5))").Nodes, Root: -1},
		"root least":    {Nodes: treeIn("((1 2) 3 (4 5))").Nodes, Root: math.MinInt},
		"root first":    {Nodes: treeIn("((1 2) 3 (4 5))").Nodes, Root: 0},
		"root not last": {Nodes: treeIn("((1 2) 3 (4 5))").Nodes, Root: 1},
		"root beyond":   {Nodes: treeIn("((1 2) 3 (4 5))").Nodes, Root: 3},
		"root most":     {Nodes: treeIn("((1 2) 3 (4 5))").Nodes, Root: math.MaxInt},
		"root ahead":    {Nodes: []impl.Node{forkWith([]int{1, 2}, 3), leafWith(1, 2), leafWith(4, 5)}, Root: 0},
		"root between":  {Nodes: []impl.Node{leafWith(1, 2), forkWith([]int{0, 2}, 3), leafWith(4, 5)}, Root: 1},

		"a leaf with kids":         treeWith(leafWith(1, 2), leafWith(4, 5), impl.Node{Leaf: true, Keys: []int{3}, Kids: []int{0, 1}}),
		"a leaf with itself":       treeWith(impl.Node{Leaf: true, Kids: []int{0}}),
		"no leaf, no kids":         treeWith(forkWith(nil, 1)),
		"no leaf, no keys":         treeWith(forkWith(nil)),
		"one kid too few":          treeWith(leafWith(1, 2), leafWith(4, 5), forkWith([]int{0, 1}, 3, 6)),
		"one kid too many":         treeWith(leafWith(1, 2), leafWith(4, 5), leafWith(7, 8), forkWith([]int{0, 1, 2}, 3)),
		"no leaf among the leaves": treeWith(forkWith(nil, 1, 2), leafWith(4, 5), forkWith([]int{0, 1}, 3)),

		"a kid -1":                 treeWith(leafWith(1, 2), leafWith(4, 5), forkWith([]int{0, -1}, 3)),
		"a kid beyond":             treeWith(leafWith(1, 2), leafWith(4, 5), forkWith([]int{0, 3}, 3)),
		"a kid most":               treeWith(leafWith(1, 2), leafWith(4, 5), forkWith([]int{0, math.MaxInt}, 3)),
		"a kid least":              treeWith(leafWith(1, 2), leafWith(4, 5), forkWith([]int{math.MinInt, 1}, 3)),
		"a kid is the node":        treeWith(leafWith(1, 2), leafWith(4, 5), forkWith([]int{0, 2}, 3)),
		"a kid is the node, alone": treeWith(forkWith([]int{0, 0}, 3)),
		"a kid twice":              treeWith(leafWith(1, 2), leafWith(4, 5), forkWith([]int{0, 0}, 3)),
		"a kid twice, alone":       treeWith(leafWith(), forkWith([]int{0, 0}, 3)),
		"a kid nobody has":         treeWith(leafWith(1, 2), leafWith(1, 2), leafWith(4, 5), forkWith([]int{0, 2}, 3)),
		"one ahead nobody has":     treeWith(leafWith(1, 2), leafWith(1, 2), leafWith(4, 5), forkWith([]int{1, 2}, 3)),
		"one behind nobody has":    treeWith(leafWith(1, 2), leafWith(4, 5), forkWith([]int{0, 1}, 3), leafWith()),
		"two leaves":               treeWith(leafWith(1, 2), leafWith(3, 4)),
		"kids the other way round": treeWith(leafWith(4, 5), leafWith(1, 2), forkWith([]int{1, 0}, 3)),
		"of two one has the other": treeWith(forkWith([]int{1, 1, 1}, 1, 2), forkWith([]int{0, 0, 0}, 5, 6), forkWith([]int{0, 1}, 3)),

		"keys fall":            treeIn("(2 1)"),
		"keys alike":           treeIn("(1 1)"),
		"a key negative":       treeIn("(-1 1)"),
		"the least key":        treeIn("(-9223372036854775808)"),
		"a key too great":      treeIn("(1 1000001)"),
		"the greatest key":     treeIn("(9223372036854775807)"),
		"the last keys fall":   treeIn("(1 2 3 5 4)"),
		"below, a key too few": treeIn("((1) 3 (4 5))"), "behind, a key too few": treeIn("((1 2) 3 (4))"),
		"a kid without keys":      treeIn("((1 2) 3 ())"),
		"a leaf with one more":    treeIn("(1 2 3 4 5 6)"),
		"a kid with one more":     treeIn("((1 2 3 4 5 6) 7 (8 9))"),
		"a root with one more":    treeIn("((1 2)3(4 5)6(7 8)9(10 11)12(13 14)15(16 17)18(19 20))"),
		"a fork with a key":       treeIn("(((1 2)3(4 5)) 9 ((10 11)12(13 14)15(16 17)))"),
		"a root without keys":     treeIn("((1 2))"),
		"roots without keys":      treeIn("(((1 2)))"),
		"one deeper":              treeIn("((1 2) 3 ((4 5)6(7 8)9(10 11)))"),
		"one deeper, ahead":       treeIn("(((1 2)3(4 5)6(7 8)) 9 (10 11))"),
		"one deeper, in midst":    treeIn("((1 2) 3 ((4 5)6(7 8)9(10 11)) 12 (13 14))"),
		"a kid's key too great":   treeIn("((1 4) 3 (5 6))"),
		"a kid's key too small":   treeIn("((1 2) 5 (4 6))"),
		"a kid's key as great":    treeIn("((1 3) 3 (4 5))"),
		"a kid's key as small":    treeIn("((1 2) 3 (3 4))"),
		"a midst kid's key":       treeIn("((1 2) 3 (4 9) 8 (10 11))"),
		"kids changed places":     treeIn("((4 5) 3 (1 2))"),
		"a fork's keys fall":      treeIn("((1 2) 6 (4 5) 3 (7 8))"),
		"two below, too great":    treeIn("(((1 2)3(4 5)6(7 10)) 9 ((11 12)13(14 15)16(17 18)))"),
		"two below, too small":    treeIn("(((1 2)3(4 5)6(7 8)) 10 ((9 12)13(14 15)16(17 18)))"),
		"a fork's key too great":  treeIn("(((1 2)3(4 5)20(21 22)) 9 ((31 32)33(34 35)36(37 38)))"),
		"levels, not kid for kid": levelsInARow(),
		"too many keys":           fullTree(1),
	}
	return l
}

// levelsInARow has all leaves ahead of all forks: kids are ahead of their nodes, but those of the second kid ahead of the first.
func levelsInARow() impl.Tree {
	return treeWith(
		leafWith(1, 2), leafWith(4, 5), leafWith(7, 8), leafWith(10, 11), leafWith(13, 14), leafWith(16, 17),
		forkWith([]int{0, 1, 2}, 3, 6), forkWith([]int{3, 4, 5}, 12, 15), forkWith([]int{6, 7}, 9),
	)
}

func wantAllRefused(t *testing.T, what string, tree impl.Tree) {
	t.Helper()
	if impl.GoodTree(tree) {
		t.Errorf("%s: %v is good", what, tree)
	}
	keys, ok := impl.KeysOf(tree)
	wantNoKeys(t, what, keys, ok)
	depth, ok := impl.DepthOf(tree)
	wantNoNumber(t, what, depth, ok)
	for _, key := range []int{-1, 0, 1, 2, 3, 4, 9, 12, 100, 1000000, 1000001} {
		if has, looked, ok := impl.HasKey(tree, key); has || looked != 0 || ok {
			t.Errorf("%s: HasKey: got %v %d %v", what, has, looked, ok)
		}
		got, ok := impl.InsertKey(tree, key)
		wantNoTree(t, what, got, ok)
		got, ok = impl.RemoveKey(tree, key)
		wantNoTree(t, what, got, ok)
		keys, ok := impl.FromTo(tree, 0, key)
		wantNoKeys(t, what, keys, ok)
	}
}

func wantNoKeys(t *testing.T, what string, keys []int, ok bool) {
	t.Helper()
	if ok || len(keys) != 0 {
		t.Errorf("%s: got %v %v, want the zero answer", what, keys, ok)
	}
}

func TestBadTreesAreRefused(t *testing.T) {
	for what, tree := range badTrees() {
		held := copyTree(tree)
		wantAllRefused(t, what, tree)
		if !sameTree(tree, held) {
			t.Errorf("%s: %v was %v", what, tree, held)
		}
		if goodTreeByTrial(tree) {
			t.Errorf("%s: good by trial", what)
		}
	}
}

// A tree that goes far down to one side is refused however long it is.
func TestALongTreeIsRefused(t *testing.T) {
	nodes := []impl.Node{leafWith(0, 1)}
	for range 200000 {
		at := len(nodes)
		nodes = append(nodes, leafWith(3, 4), leafWith(6, 7), forkWith([]int{at - 1, at, at + 1}, 2, 5))
	}
	wantAllRefused(t, "far down to the left", treeWith(nodes...))
	nodes = nil
	for range 300000 {
		nodes = append(nodes, forkWith([]int{len(nodes) - 1}))
	}
	wantAllRefused(t, "a row of nodes", treeWith(nodes...))
	wide := impl.Node{Keys: make([]int, 100000), Kids: make([]int, 100001)}
	wantAllRefused(t, "a wide node", treeWith(wide))
	wantAllRefused(t, "a wide leaf", treeWith(impl.Node{Leaf: true, Keys: make([]int, 100000)}))
	got, ok := impl.TreeOf(make([]int, 100000))
	wantNoTree(t, "TreeOf of a long list", got, ok)
}

// changedTrees are a tree with each of its numbers changed, left out or twice, its nodes changed in their places, and its leaves' signs turned.
func changedTrees(tree impl.Tree) []impl.Tree {
	var l []impl.Tree
	change := func(do func(c *impl.Tree)) {
		c := copyTree(tree)
		do(&c)
		l = append(l, c)
	}
	for root := -1; root <= len(tree.Nodes); root++ {
		change(func(c *impl.Tree) { c.Root = root })
	}
	for i := range tree.Nodes {
		change(func(c *impl.Tree) { c.Nodes[i].Leaf = !c.Nodes[i].Leaf })
		change(func(c *impl.Tree) { c.Nodes = slices.Delete(c.Nodes, i, i+1) })
		change(func(c *impl.Tree) { c.Nodes, c.Root = slices.Delete(c.Nodes, i, i+1), c.Root-1 })
		change(func(c *impl.Tree) { c.Nodes, c.Root = slices.Insert(c.Nodes, i, c.Nodes[i]), c.Root+1 })
		for k := range i {
			change(func(c *impl.Tree) { c.Nodes[i], c.Nodes[k] = c.Nodes[k], c.Nodes[i] })
			change(func(c *impl.Tree) { c.Nodes[i].Kids, c.Nodes[k].Kids = c.Nodes[k].Kids, c.Nodes[i].Kids })
			change(func(c *impl.Tree) { c.Nodes[i].Keys, c.Nodes[k].Keys = c.Nodes[k].Keys, c.Nodes[i].Keys })
		}
		l = append(l, changedLists(tree, func(c *impl.Tree) *[]int { return &c.Nodes[i].Keys })...)
		l = append(l, changedLists(tree, func(c *impl.Tree) *[]int { return &c.Nodes[i].Kids })...)
	}
	return l
}

// changedLists does so with one list of the tree.
func changedLists(tree impl.Tree, of func(c *impl.Tree) *[]int) []impl.Tree {
	var l []impl.Tree
	for at := range len(*of(&tree)) + 1 {
		for _, x := range []int{-1, 0, 1, 2, 3, 4, 5, 6, 8, 9, 10, 18, 19, 1000000, 1000001, math.MaxInt, math.MinInt} {
			c := copyTree(tree)
			*of(&c) = slices.Insert(*of(&c), at, x)
			l = append(l, c)
			if at < len(*of(&tree)) {
				c = copyTree(tree)
				(*of(&c))[at] = x
				l = append(l, c)
			}
		}
		if at < len(*of(&tree)) {
			c := copyTree(tree)
			*of(&c) = slices.Delete(*of(&c), at, at+1)
			l = append(l, c)
		}
	}
	return l
}

func checkGoodTree(t *testing.T, tree impl.Tree) {
	t.Helper()
	good := goodTreeByTrial(tree)
	if got := impl.GoodTree(tree); got != good {
		t.Fatalf("GoodTree of %v: got %v", tree, got)
	}
	if keys, ok := impl.KeysOf(tree); ok != good || !good && len(keys) != 0 {
		t.Fatalf("KeysOf %v: got %v %v", tree, keys, ok)
	}
}

func TestGoodTreesAreWhatTheWordsSay(t *testing.T) {
	for _, text := range []string{
		"()", "(3)", "(1 3)", "(1 3 5 7 9)", "((1 3) 5 (7 9))", "((1 3 4) 5 (7 9 10 12))", "((1 3) 5 (7 9) 11 (13 15))",
		"(((1 3)5(7 9)11(13 15)) 17 ((20 21)22(23 24)25(26 27)))",
		"(((1 3)5(7 9)11(13 15 16)) 17 ((20 21 22)23(24 25)26(27 28)29(30 31)) 32 ((33 34)35(36 37)38(39 40)))",
	} {
		tree := treeIn(text)
		checkGoodTree(t, tree)
		for _, one := range changedTrees(tree) {
			checkGoodTree(t, one)
		}
	}
	// Two changes, of which the second may undo the first or hide it.
	for _, one := range changedTrees(treeIn("((1 3) 5 (7 9))")) {
		for _, two := range changedTrees(one) {
			checkGoodTree(t, two)
		}
	}
}

func TestOddNumbersInTrees(t *testing.T) {
	tree := treeIn("((1 2) 3 (4 5))")
	for _, n := range oddNumbers() {
		checkTreeNumber(t, tree, n)
		checkGoodTree(t, impl.Tree{Nodes: tree.Nodes, Root: n})
		checkGoodTree(t, treeWith(leafWith(n)))
		for _, m := range oddNumbers() {
			checkGoodTree(t, treeWith(leafWith(n, m)))
			checkGoodTree(t, treeWith(leafWith(1, 2), leafWith(4, 5), forkWith([]int{n, m}, 3)))
			got, ok := impl.FromTo(tree, n, m)
			wantKeys(t, "FromTo", got, ok, keysBetween([]int{1, 2, 3, 4, 5}, n, m))
		}
	}
}

func checkTreeNumber(t *testing.T, tree impl.Tree, n int) {
	t.Helper()
	is := n >= 1 && n <= 5
	wantHas(t, tree, n, is)
	put, ok := impl.InsertKey(tree, n)
	if ok != (!is && n >= 0 && n <= 1000000) || ok != impl.GoodTree(put) {
		t.Errorf("InsertKey %d: got %v %v", n, put, ok)
	}
	gone, ok := impl.RemoveKey(tree, n)
	if ok != is || ok != impl.GoodTree(gone) {
		t.Errorf("RemoveKey %d: got %v %v", n, gone, ok)
	}
	one, ok := impl.TreeOf([]int{n})
	if ok != (n >= 0 && n <= 1000000) || ok != impl.GoodTree(one) {
		t.Errorf("TreeOf %d: got %v %v", n, one, ok)
	}
}

// roomyTree has room behind its lists, with numbers and nodes in it that are none of its.
func roomyTree(text string) impl.Tree {
	tree := treeIn(text)
	for i, n := range tree.Nodes {
		tree.Nodes[i].Keys = withRoom(n.Keys, 7001, 7002, 7003)
		tree.Nodes[i].Kids = withRoom(n.Kids, 7001, 7002, 7003)
	}
	tree.Nodes = withRoom(tree.Nodes, leafWith(7001), leafWith(7002))
	return tree
}

func listsOfTree(tree impl.Tree) [][]int {
	var l [][]int
	for _, n := range tree.Nodes[:cap(tree.Nodes)] {
		l = append(l, n.Keys, n.Kids)
	}
	return l
}

func wantRoomyTree(t *testing.T, what string, tree impl.Tree, text string) {
	t.Helper()
	fresh := roomyTree(text)
	if !sameTree(tree, fresh) || !slices.EqualFunc(wholeOf(tree.Nodes), wholeOf(fresh.Nodes), sameNode) {
		t.Errorf("%s: written into: %v", what, tree)
	}
	wantAsFresh(t, what, listsOfTree(tree), listsOfTree(fresh))
}

// wantTreeApart: the nodes of an answer are its own, and so is each list of each of them.
func wantTreeApart(t *testing.T, what string, tree impl.Tree, text string, answer impl.Tree) {
	t.Helper()
	wantRoomyTree(t, what, tree, text)
	given, held := wholeOf(tree.Nodes), copyTree(answer)
	spoil(tree.Nodes, leafWith(-9))
	if !sameTree(answer, held) {
		t.Errorf("%s: the nodes are the argument's", what)
	}
	copy(tree.Nodes[:cap(tree.Nodes)], given)
	wantListsApart(t, what, listsOfTree(tree), listsOfTree(roomyTree(text)), listsOfTree(answer), -9)
	spoil(answer.Nodes, leafWith(-9))
	wantRoomyTree(t, what+", the answer spoilt", tree, text)
}

// textsOfTrees are such that some leaf is full, some can lend, and some must be joined.
func textsOfTrees() []string {
	return []string{
		"()", "(1 3)", "(1 3 5 7 9)", "((1 3) 5 (7 9))", "((1 3 5) 7 (9 11) 13 (15 17 19 21 23))",
		"((1 3 5 7 9)11(13 15)17(19 21)23(25 27)29(31 33)35(37 39))",
		"(((1 3)5(7 9)11(13 15)) 17 ((19 21)23(25 27)29(31 33)))",
		"(((1 3)5(7 9)11(13 15)17(19 21 23)) 25 ((27 29)31(33 35)37(39 41)) 43 ((45 47)49(51 53)55(57 59)61(63 65)))",
	}
}

func TestTreeAnswersAreNewMemory(t *testing.T) {
	for _, text := range textsOfTrees() {
		for key := range 68 {
			tree := roomyTree(text)
			if got, ok := impl.InsertKey(tree, key); ok {
				wantTreeApart(t, "InsertKey", tree, text, got)
			}
			tree = roomyTree(text)
			if got, ok := impl.RemoveKey(tree, key); ok {
				wantTreeApart(t, "RemoveKey", tree, text, got)
			}
			wantRoomyTree(t, "put, removed or refused", tree, text)
		}
	}
}

func TestQuestionsWriteIntoNoTree(t *testing.T) {
	for _, text := range textsOfTrees() {
		tree := roomyTree(text)
		want := plantIn(text).allKeys()
		impl.GoodTree(tree)
		impl.DepthOf(tree)
		for key := -1; key < 70; key++ {
			impl.HasKey(tree, key)
		}
		wantRoomyTree(t, "asked", tree, text)
		for range 2 {
			keys, ok := impl.KeysOf(tree)
			wantKeys(t, "KeysOf", keys, ok, want)
			between, ok := impl.FromTo(tree, 0, 100)
			wantKeys(t, "FromTo", between, ok, want)
			spoil(keys, -9)
			wantKeys(t, "FromTo, the other spoilt", between, ok, want)
			spoil(between, -9)
			wantRoomyTree(t, "the answers spoilt", tree, text)
		}
	}
}

func TestNewTreesShareNothing(t *testing.T) {
	a := impl.NewTree()
	spoil(a.Nodes, leafWith(-9))
	if !sameTree(impl.NewTree(), treeIn("()")) {
		t.Error("NewTree after another was spoilt is another one")
	}
}

func TestTreeOfSharesNothing(t *testing.T) {
	for _, text := range []string{"()", "(3)", "(1 2 3 4 5)", "((1 2 3) 4 (5 6))", "((1 2 3) 4 (5 6 7) 8 (9 10))"} {
		fresh := withRoom(plantIn(text).allKeys(), 7001, 7002)
		keys := withRoom(plantIn(text).allKeys(), 7001, 7002)
		got, ok := impl.TreeOf(keys)
		wantTree(t, "TreeOf", got, ok, plantIn(text))
		wantListsApart(t, "TreeOf", [][]int{keys}, [][]int{fresh}, listsOfTree(got), -9)
	}
}

// What lies behind a length is not among the nodes, keys or kids: there it would mend what is bad.
func TestNodesBehindTheLengthDoNotCount(t *testing.T) {
	whole := treeIn("((1 2) 3 (4 5))")
	for _, short := range []func(c *impl.Tree){
		func(c *impl.Tree) { c.Nodes = c.Nodes[:2] },
		func(c *impl.Tree) { c.Nodes[0].Keys = c.Nodes[0].Keys[:1] },
		func(c *impl.Tree) { c.Nodes[2].Keys = c.Nodes[2].Keys[:0] },
		func(c *impl.Tree) { c.Nodes[2].Kids = c.Nodes[2].Kids[:1] },
	} {
		c := copyTree(whole)
		short(&c)
		wantAllRefused(t, "cut short", c)
	}
	leaf := treeWith(leafWith([]int{1, 2, 3}[:1]...))
	wantTree(t, "a leaf cut short", leaf, true, plantIn("(1)"))
	wantHas(t, leaf, 2, false)
	put, ok := impl.InsertKey(leaf, 2)
	wantTree(t, "InsertKey of what is behind", put, ok, plantIn("(1 2)"))
}

// Two steps from one tree do not meet in the memory behind its lists.
func TestTwoStepsFromOneTree(t *testing.T) {
	text := "((1 3 5) 7 (9 11))"
	tree := roomyTree(text)
	a, okA := impl.InsertKey(tree, 12)
	b, okB := impl.InsertKey(tree, 13)
	c, okC := impl.RemoveKey(tree, 11)
	wantTree(t, "the one", a, okA, plantIn("((1 3 5) 7 (9 11 12))"))
	wantTree(t, "the other", b, okB, plantIn("((1 3 5) 7 (9 11 13))"))
	wantTree(t, "the third", c, okC, plantIn("((1 3) 5 (7 9))"))
	wantRoomyTree(t, "all three", tree, text)
}

// One list that stands for many in an argument is no list of the answer's.
func TestNodesOfATreeMayShareTheirLists(t *testing.T) {
	one, fresh := someKeys(8), someKeys(8)
	tree := treeWith(leafWith(one[0:3]...), leafWith(one[4:7]...), forkWith([]int{0, 1}, one[3]))
	put, ok := impl.InsertKey(tree, 8)
	wantTree(t, "InsertKey", put, ok, plantIn("((1 2 3) 4 (5 6 7 8))"))
	wantListsApart(t, "InsertKey", [][]int{one}, [][]int{fresh}, listsOfTree(put), -9)
	gone, ok := impl.RemoveKey(tree, 4)
	wantTree(t, "RemoveKey", gone, ok, plantIn("((1 2) 3 (5 6 7))"))
	wantListsApart(t, "RemoveKey", [][]int{one}, [][]int{fresh}, listsOfTree(gone), -9)
}

func someKeys(many int) []int {
	l := make([]int, many)
	for i := range l {
		l[i] = i + 1
	}
	return l
}
