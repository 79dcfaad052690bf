package tests

import (
	"slices"
	"strconv"
	"strings"
	"testing"

	"loop.example/g00261/impl"
)

// plant is a tree whose nodes point at their kids and are changed on the spot.
type plant struct {
	keys []int
	kids []*plant
}

// plantIn reads a node as what stands in brackets: numbers are its keys, brackets its kids.
func plantIn(text string) *plant {
	done := &plant{}
	open := []*plant{done}
	for _, word := range strings.Fields(strings.NewReplacer("(", " ( ", ")", " ) ").Replace(text)) {
		top := open[len(open)-1]
		switch word {
		case "(":
			kid := &plant{}
			top.kids = append(top.kids, kid)
			open = append(open, kid)
		case ")":
			open = open[:len(open)-1]
		default:
			key, err := strconv.Atoi(word)
			if err != nil {
				panic(err)
			}
			top.keys = append(top.keys, key)
		}
	}
	return done.kids[0]
}

// laid has the nodes in their order: kids ahead of the one that has them.
func (p *plant) laid() impl.Tree {
	t := impl.Tree{}
	p.layInto(&t)
	t.Root = len(t.Nodes) - 1
	return t
}

func (p *plant) layInto(t *impl.Tree) int {
	n := impl.Node{Leaf: len(p.kids) == 0, Keys: slices.Clone(p.keys)}
	for _, kid := range p.kids {
		n.Kids = append(n.Kids, kid.layInto(t))
	}
	t.Nodes = append(t.Nodes, n)
	return len(t.Nodes) - 1
}

func treeIn(text string) impl.Tree {
	return plantIn(text).laid()
}

// plantOf takes a good tree.
func plantOf(t impl.Tree) *plant {
	return plantAt(t, t.Root)
}

func plantAt(t impl.Tree, number int) *plant {
	p := &plant{keys: slices.Clone(t.Nodes[number].Keys)}
	for _, kid := range t.Nodes[number].Kids {
		p.kids = append(p.kids, plantAt(t, kid))
	}
	return p
}

// allKeys are sorted, not gone through in their order.
func (p *plant) allKeys() []int {
	l := slices.Clone(p.keys)
	for _, kid := range p.kids {
		l = append(l, kid.allKeys()...)
	}
	slices.Sort(l)
	return l
}

func (p *plant) depth() int {
	if len(p.kids) == 0 {
		return 1
	}
	return 1 + p.kids[0].depth()
}

// pathTo are the nodes from the root down to the one that has the key, or to a leaf.
func (p *plant) pathTo(key int) []*plant {
	path := []*plant{p}
	for !slices.Contains(p.keys, key) && len(p.kids) > 0 {
		at := 0
		for at < len(p.keys) && p.keys[at] < key {
			at++
		}
		p = p.kids[at]
		path = append(path, p)
	}
	return path
}

// put answers the root: what is cut is cut from the leaf upwards.
func (p *plant) put(key int) *plant {
	path := p.pathTo(key)
	leaf := path[len(path)-1]
	leaf.keys = append(leaf.keys, key)
	slices.Sort(leaf.keys)
	for i := len(path) - 1; len(path[i].keys) == 6; i-- {
		left := path[i]
		up, right := left.keys[3], &plant{keys: slices.Clone(left.keys[4:])}
		left.keys = left.keys[:3]
		if len(left.kids) > 0 {
			right.kids = slices.Clone(left.kids[4:])
			left.kids = left.kids[:4]
		}
		if i == 0 {
			return &plant{keys: []int{up}, kids: []*plant{left, right}}
		}
		above := path[i-1]
		at := slices.Index(above.kids, left)
		above.keys = slices.Insert(above.keys, at, up)
		above.kids = slices.Insert(above.kids, at+1, right)
	}
	return p
}

// drop answers the root: what is short is filled from the leaf upwards.
func (p *plant) drop(key int) *plant {
	path := p.pathTo(key)
	has := path[len(path)-1]
	if len(has.kids) > 0 {
		at := slices.Index(has.keys, key)
		path = append(path, has.kids[at])
		for leaf := has.kids[at]; len(leaf.kids) > 0; {
			leaf = leaf.kids[len(leaf.kids)-1]
			path = append(path, leaf)
		}
		leaf := path[len(path)-1]
		last := len(leaf.keys) - 1
		has.keys[at], leaf.keys[last] = leaf.keys[last], has.keys[at]
	}
	leaf := path[len(path)-1]
	leaf.keys = slices.DeleteFunc(leaf.keys, func(k int) bool { return k == key })
	for i := len(path) - 1; i > 0 && len(path[i].keys) < 2; i-- {
		path[i-1].fill(slices.Index(path[i-1].kids, path[i]))
	}
	if len(p.keys) == 0 && len(p.kids) > 0 {
		return p.kids[0]
	}
	return p
}

// fill mends the kid at that place, which has one key too few.
func (p *plant) fill(at int) {
	if at > 0 && len(p.kids[at-1].keys) > 2 {
		p.lendFromLeft(at)
		return
	}
	if at+1 < len(p.kids) && len(p.kids[at+1].keys) > 2 {
		p.lendFromRight(at)
		return
	}
	if at == 0 {
		at = 1
	}
	left, right := p.kids[at-1], p.kids[at]
	left.keys = append(append(left.keys, p.keys[at-1]), right.keys...)
	left.kids = append(left.kids, right.kids...)
	p.keys = slices.Delete(p.keys, at-1, at)
	p.kids = slices.Delete(p.kids, at, at+1)
}

func (p *plant) lendFromLeft(at int) {
	kid, left := p.kids[at], p.kids[at-1]
	last := len(left.keys) - 1
	kid.keys = slices.Insert(kid.keys, 0, p.keys[at-1])
	p.keys[at-1] = left.keys[last]
	left.keys = left.keys[:last]
	if len(kid.kids) > 0 {
		kid.kids = slices.Insert(kid.kids, 0, left.kids[last+1])
		left.kids = left.kids[:last+1]
	}
}

func (p *plant) lendFromRight(at int) {
	kid, right := p.kids[at], p.kids[at+1]
	kid.keys = append(kid.keys, p.keys[at])
	p.keys[at] = right.keys[0]
	right.keys = right.keys[1:]
	if len(kid.kids) > 0 {
		kid.kids = append(kid.kids, right.kids[0])
		right.kids = right.kids[1:]
	}
}

func sameNode(a impl.Node, b impl.Node) bool {
	return a.Leaf == b.Leaf && slices.Equal(a.Keys, b.Keys) && slices.Equal(a.Kids, b.Kids)
}

func sameTree(a impl.Tree, b impl.Tree) bool {
	return a.Root == b.Root && slices.EqualFunc(a.Nodes, b.Nodes, sameNode)
}

func wantNoTree(t *testing.T, what string, got impl.Tree, ok bool) {
	t.Helper()
	if ok || !sameTree(got, impl.Tree{}) {
		t.Fatalf("%s: got %v %v, want the zero answer", what, got, ok)
	}
}

func wantKeys(t *testing.T, what string, got []int, ok bool, want []int) {
	t.Helper()
	if !ok || !slices.Equal(got, want) {
		t.Fatalf("%s: got %v %v, want %v", what, got, ok, want)
	}
}

// leastKeysAt is how few keys a tree can have that is so deep: the root has one, the others two and three kids.
func leastKeysAt(depth int) int {
	if depth == 1 {
		return 0
	}
	leaves := 2
	for range depth - 2 {
		leaves *= 3
	}
	return 3*leaves - 1
}

// wantTree: the tree is the one wanted, good and shallow, and has just its keys, rising.
func wantTree(t *testing.T, what string, got impl.Tree, ok bool, want *plant) {
	t.Helper()
	if !ok || !sameTree(got, want.laid()) {
		t.Fatalf("%s: got %v %v, want %v", what, got, ok, want.laid())
	}
	if !impl.GoodTree(got) {
		t.Fatalf("%s: %v is not good", what, got)
	}
	keys, ok := impl.KeysOf(got)
	wantKeys(t, what+": KeysOf", keys, ok, want.allKeys())
	depth, ok := impl.DepthOf(got)
	if !ok || depth != want.depth() || leastKeysAt(depth) > len(keys) {
		t.Fatalf("%s: %d keys are %d deep: %v", what, len(keys), depth, ok)
	}
}

// wantHas: the key is there or not, and just the nodes down to it are looked at.
func wantHas(t *testing.T, tree impl.Tree, key int, want bool) {
	t.Helper()
	has, looked, ok := impl.HasKey(tree, key)
	depth, _ := impl.DepthOf(tree)
	if !ok || has != want || looked > depth || looked != len(plantOf(tree).pathTo(key)) {
		t.Fatalf("HasKey %d of %v: got %v %d %v, want %v", key, tree, has, looked, ok, want)
	}
	if !has && looked != depth {
		t.Fatalf("HasKey %d of %v: not there, told behind %d of %d", key, tree, looked, depth)
	}
}

// checkTreeKey: a key that is there is removed and not inserted, another one is inserted and not removed.
func checkTreeKey(t *testing.T, tree impl.Tree, key int, is bool) {
	t.Helper()
	wantHas(t, tree, key, is)
	put, okPut := impl.InsertKey(tree, key)
	gone, okGone := impl.RemoveKey(tree, key)
	if is {
		wantNoTree(t, "InsertKey of what is there", put, okPut)
		wantTree(t, "RemoveKey", gone, okGone, plantOf(tree).drop(key))
		wantHas(t, gone, key, false)
		return
	}
	wantNoTree(t, "RemoveKey of what is not there", gone, okGone)
	wantTree(t, "InsertKey", put, okPut, plantOf(tree).put(key))
	wantHas(t, put, key, true)
}

// numbered gives a plant the odd numbers as keys, so that an even one can be put beside each.
func (p *plant) numbered() *plant {
	next := 1
	p.number(&next)
	return p
}

func (p *plant) number(next *int) {
	for i := range max(len(p.keys), len(p.kids)) {
		if i < len(p.kids) {
			p.kids[i].number(next)
		}
		if i < len(p.keys) {
			p.keys[i] = *next
			*next += 2
		}
	}
}

// overLeaves has a leaf for each number, which has so many keys.
func overLeaves(sizes []int) *plant {
	var kids []*plant
	for _, n := range sizes {
		kids = append(kids, &plant{keys: make([]int, n)})
	}
	return overKids(kids)
}

func overKids(kids []*plant) *plant {
	return &plant{keys: make([]int, len(kids)-1), kids: kids}
}

func overForks(rows ...[]int) *plant {
	var kids []*plant
	for _, sizes := range rows {
		kids = append(kids, overLeaves(sizes))
	}
	return overKids(kids)
}

// rowsOf are all rows of so many of the choices.
func rowsOf[T any](many int, choices ...T) [][]T {
	rows := [][]T{nil}
	for range many {
		var longer [][]T
		for _, row := range rows {
			for _, x := range choices {
				longer = append(longer, append(slices.Clone(row), x))
			}
		}
		rows = longer
	}
	return rows
}

// checkAllKeys puts a key into each gap and takes each key out.
func checkAllKeys(t *testing.T, p *plant) {
	t.Helper()
	tree := p.numbered().laid()
	keys := p.allKeys()
	wantTree(t, "as laid", tree, true, p)
	for key := range 2*len(keys) + 1 {
		checkTreeKey(t, tree, key, key%2 == 1)
	}
}

func TestLeavesOfAllSizes(t *testing.T) {
	for n := range 6 {
		checkAllKeys(t, &plant{keys: make([]int, n)})
	}
}

func TestTreesOfTwoLevels(t *testing.T) {
	for many := 2; many <= 6; many++ {
		choices := []int{2, 3, 4, 5}
		if many > 4 {
			choices = []int{2, 3, 5}
		}
		for _, sizes := range rowsOf(many, choices...) {
			checkAllKeys(t, overLeaves(sizes))
		}
	}
}

func TestTreesOfThreeLevels(t *testing.T) {
	forks := append(rowsOf(3, 2, 3), rowsOf(4, 2, 5)...)
	forks = append(forks, []int{2, 2, 2, 2, 2, 2}, []int{5, 5, 5, 5, 5, 5})
	for _, rows := range rowsOf(2, forks...) {
		checkAllKeys(t, overForks(rows...))
	}
	for _, rows := range rowsOf(3, []int{2, 2, 2}, []int{3, 2, 3}, []int{2, 2, 2, 2}, []int{5, 5, 5, 5, 5, 5}) {
		checkAllKeys(t, overForks(rows...))
	}
}

// A root and a kid of it that are full, at each place: a full leaf below is cut up to the root.
func TestFullNodesUpToTheRoot(t *testing.T) {
	for at := range 6 {
		rows := make([][]int, 6)
		for i := range rows {
			rows[i] = []int{2, 2, 2}
		}
		rows[at] = []int{5, 5, 5, 5, 5, 5}
		checkAllKeys(t, overForks(rows...))
	}
}

// deepest has as few keys as one that deep can have.
func deepest(depth int) *plant {
	p := leastBelow(depth)
	if depth > 1 {
		p.keys, p.kids = p.keys[:1], p.kids[:2]
	}
	return p
}

func leastBelow(depth int) *plant {
	if depth == 1 {
		return &plant{keys: make([]int, 2)}
	}
	return overKids([]*plant{leastBelow(depth - 1), leastBelow(depth - 1), leastBelow(depth - 1)})
}

// Whatever key goes from a tree with the fewest keys of all that deep, it is less deep then.
func TestTheDeepestTrees(t *testing.T) {
	for depth := 2; depth <= 5; depth++ {
		p := deepest(depth)
		checkAllKeys(t, p)
		for _, key := range p.allKeys() {
			got, ok := impl.RemoveKey(p.laid(), key)
			if less, _ := impl.DepthOf(got); !ok || less != depth-1 {
				t.Fatalf("%d deep without one of the fewest keys", less)
			}
		}
	}
}

// wantAllOf asks for each key up to an end, and for stretches of them.
func wantAllOf(t *testing.T, tree impl.Tree, keys []int, end int) {
	t.Helper()
	slices.Sort(keys)
	got, ok := impl.KeysOf(tree)
	wantKeys(t, "KeysOf", got, ok, keys)
	for key := -1; key <= end; key++ {
		wantHas(t, tree, key, slices.Contains(keys, key))
	}
	for from := -1; from <= end+1; from += 3 {
		for to := -1; to <= end+1; to += 5 {
			got, ok := impl.FromTo(tree, from, to)
			wantKeys(t, "FromTo", got, ok, keysBetween(keys, from, to))
		}
	}
}

func keysBetween(keys []int, from int, to int) []int {
	return slices.DeleteFunc(slices.Clone(keys), func(key int) bool { return key < from || key >= to })
}

// A row of puts and removals: behind each step there is what was put and not removed. That a step is the one wanted is asked of the plant, that keys stay of a plain list.
func TestATreeHasWhatWasPutAndNotRemoved(t *testing.T) {
	for seed := range steps(6) {
		s := seed
		end := 20 + 60*int(seed)
		tree, keys, p := impl.NewTree(), []int{}, &plant{}
		for step := range 700 {
			key := s.below(end)
			growing := step/150%2 == 0
			at, ok := slices.Index(keys, key), false
			switch {
			case at < 0 && len(keys) < 200 && (growing || s.below(4) == 0):
				p, keys = p.put(key), append(keys, key)
				tree, ok = impl.InsertKey(tree, key)
				wantTree(t, "InsertKey", tree, ok, p)
			case at >= 0 && (!growing || s.below(4) == 0):
				p, keys = p.drop(key), slices.Delete(keys, at, at+1)
				tree, ok = impl.RemoveKey(tree, key)
				wantTree(t, "RemoveKey", tree, ok, p)
			}
			if step%100 == 0 {
				wantAllOf(t, tree, slices.Clone(keys), end)
			}
		}
		wantAllOf(t, tree, slices.Clone(keys), end)
	}
}

// someOrder has each number below many once.
func someOrder(s *steps, many int) []int {
	l := make([]int, many)
	for i := range l {
		l[i] = i
	}
	for i := range l {
		k := i + s.below(many-i)
		l[i], l[k] = l[k], l[i]
	}
	return l
}

func mirrored(l []int) []int {
	l = slices.Clone(l)
	slices.Reverse(l)
	return l
}

// All keys come and all go again, in rising, falling and other orders.
func TestAllKeysComeAndGo(t *testing.T) {
	s := steps(7)
	rising := make([]int, 200)
	for i := range rising {
		rising[i] = i * 5000
	}
	var mixed []int
	for _, i := range someOrder(&s, 200) {
		mixed = append(mixed, rising[i])
	}
	orders := [][]int{rising, mirrored(rising), mixed}
	for _, in := range orders {
		for _, out := range orders {
			checkComeAndGo(t, in, out)
		}
	}
}

func checkComeAndGo(t *testing.T, in []int, out []int) {
	t.Helper()
	tree, p, ok := impl.NewTree(), &plant{}, false
	for _, key := range in {
		p = p.put(key)
		tree, ok = impl.InsertKey(tree, key)
		wantTree(t, "InsertKey", tree, ok, p)
	}
	all, ok := impl.TreeOf(in)
	wantTree(t, "TreeOf", all, ok, p)
	for _, key := range out {
		p = p.drop(key)
		tree, ok = impl.RemoveKey(tree, key)
		wantTree(t, "RemoveKey", tree, ok, p)
	}
	if !sameTree(tree, impl.NewTree()) {
		t.Fatalf("all keys are gone, and %v is left", tree)
	}
}
