package tree_test

import (
	"math"
	"math/rand"
	"slices"
	"testing"

	"cellular/api"
	"cellular/tree"
)

// checkRight compares Right with the expected result. If the tree is not valid, no other function may accept it.
func checkRight(t *testing.T, own api.Tree, want bool) {
	t.Helper()
	if rightModel(own) != want {
		t.Errorf("the model tells %v of %s", !want, show(own))
	}
	unchanged(t, own, nil, func(own api.Tree, _ []int) {
		if got := tree.Right(own); got != want {
			t.Errorf("Right of %s is %v", show(own), got)
		}
		if want {
			return
		}
		if s, e := tree.Eval(own, make([]int, min(len(own.Hood), 30))); s != 0 || e != api.ErrRule {
			t.Errorf("Eval of %s is %d with the error %d", show(own), s, e)
		}
		if sizes := tree.Size(own); tree.Quiet(own) || len(sizes) > 0 {
			t.Errorf("%s, which is not valid, is quiet, or has the sizes %v", show(own), sizes)
		}
	})
}

// P12.1: trees of all kinds with each number of states and many neighbourhoods.
func TestRightValid(t *testing.T) {
	rng := rand.New(rand.NewSource(121))
	for _, drawing := range append(slices.Clone(small), large...) {
		l := drawn(drawing)
		for states := 2; states <= api.MaxStates; states++ {
			for s := range states {
				checkRight(t, always(s).tree(states, l), true)
			}
			for k := range l {
				checkRight(t, reading(k).tree(states, l), true)
			}
			checkRight(t, summing(states).tree(states, l), true)
			for range 5 {
				checkRight(t, randomRule(rng, states, len(l)).tree(states, l), true)
				checkRight(t, randomTree(rng, states, l, rng.Intn(100)), true)
			}
		}
	}
}

// P12.1: the number of states. Where it is possible, all other conditions hold.
func TestRightStates(t *testing.T) {
	for _, drawing := range []string{single, left, moore, square} {
		l := drawn(drawing)
		for states := range 20 {
			checkRight(t, always(0).tree(states, l), states >= 2 && states <= 8)
			own := always(0).tree(states, l)
			own.Nodes = []api.Node{}
			checkRight(t, own, false)
		}
		for _, states := range ints {
			for _, elements := range []int{0, 1, 2, 8, 9} {
				own := always(0).tree(elements, l)
				own.States = states
				checkRight(t, own, states == elements && elements >= 2 && elements <= 8)
			}
		}
	}
}

// P12.1: lists that are no valid neighbourhoods, with nodes for as many levels as they have offsets.
func TestRightHoods(t *testing.T) {
	for _, l := range wrongHoods() {
		for _, states := range []int{2, 3, 8} {
			checkRight(t, always(0).tree(states, l), false)
			checkRight(t, reading(0).tree(states, l), false)
		}
		checkRight(t, api.Tree{States: 2, Hood: l, Nodes: []api.Node{node(len(l), 0, 0)}}, false)
		checkRight(t, api.Tree{States: 2, Hood: l, Nodes: []api.Node{node(0, 0, 0)}}, false)
		checkRight(t, api.Tree{States: 2, Hood: l, Nodes: []api.Node{node(1, 0, 1)}}, false)
	}
	checkRight(t, api.Tree{}, false)
	every := drawn(square)
	for i := range every {
		for _, c := range []int{-3, 3, -300, 256, math.MinInt, math.MaxInt} {
			for _, p := range []api.Point{{X: c, Y: every[i].Y}, {X: every[i].X, Y: c}} {
				own := always(1).tree(2, every)
				own.Hood[i] = p
				checkRight(t, own, false)
			}
		}
		for k := range every {
			own := always(1).tree(2, every)
			own.Hood[i], own.Hood[k] = own.Hood[k], own.Hood[i]
			checkRight(t, own, i == k)
			own = always(1).tree(2, every)
			own.Hood[i] = own.Hood[k]
			checkRight(t, own, i == k)
		}
		checkRight(t, always(1).tree(2, every[i:i+1]), true)
	}
}

// P12.1: a neighbourhood with more or fewer offsets than there are levels.
func TestRightHoodLengths(t *testing.T) {
	every := drawn(square)
	for levels := range every {
		for offsets := range every {
			own := always(0).tree(3, every[:levels+1])
			own.Hood = every[:offsets+1]
			checkRight(t, own, levels == offsets)
		}
	}
}

// P12.1: numbers of nodes, with nodes that are equal or not needed.
func TestRightNumbersOfNodes(t *testing.T) {
	for _, n := range []int{1, 2, 3, 255, 256, 257, 4094, 4095, 4096, 4097, 4098, 8192, 1<<16 + 1} {
		own := api.Tree{States: 2, Hood: drawn(single), Nodes: make([]api.Node, n)}
		for i := range own.Nodes {
			own.Nodes[i] = node(1, i%2, 1)
		}
		checkRight(t, own, n <= 4096)
		own = api.Tree{States: 2, Hood: drawn(left), Nodes: make([]api.Node, n)}
		for i := range own.Nodes {
			own.Nodes[i] = node(1, 1, i%2)
		}
		own.Nodes[n-1] = node(2, max(0, n-2), 0)
		checkRight(t, own, n <= 4096 && n > 1)
	}
	for _, drawing := range append(slices.Clone(small), large...) {
		checkRight(t, api.Tree{States: 2, Hood: drawn(drawing)}, false)
		checkRight(t, api.Tree{States: 2, Hood: drawn(drawing), Nodes: []api.Node{}}, false)
		// Each node is needed, but for the first ones.
		for n := 4094; n < 4099; n++ {
			own := summing(8).tree(8, drawn(drawing))
			spare := slices.Repeat([]api.Node{node(1, 7, 6, 5, 4, 3, 2, 1, 0)}, n-len(own.Nodes))
			for _, other := range own.Nodes {
				for i := range other.Next {
					if other.Level > 1 {
						other.Next[i] += len(spare)
					}
				}
			}
			own.Nodes = append(spare, own.Nodes...)
			checkRight(t, own, n <= 4096)
		}
	}
}

// P12.1: levels of a node that no other one needs, of one that is needed, and of the root.
func TestRightLevels(t *testing.T) {
	for _, level := range ints {
		// The spare node's elements are states and, at its place, indices of nodes of each level below its own.
		for _, c := range []struct {
			drawing string
			want    bool
			nodes   []api.Node
		}{
			{single, level == 1, []api.Node{node(level, 0, 1)}},
			{single, level == 1, []api.Node{node(level, 0, 0), node(1, 0, 1)}},
			{single, level == 1, []api.Node{node(1, 0, 1), node(level, 0, 0)}},
			{left, level == 2, []api.Node{node(1, 0, 1), node(level, 0, 0)}},
			{left, level == 1, []api.Node{node(level, 0, 1), node(2, 0, 0)}},
			{left, level == 1, []api.Node{node(level, 1, 1), node(1, 0, 1), node(2, 1, 1)}},
			{left, level == 1 || level == 2, []api.Node{node(1, 0, 1), node(level, 0, 0), node(2, 0, 0)}},
			{left, level == 1 || level == 2, []api.Node{node(1, 0, 1), node(1, 1, 1), node(level, 1, 0), node(2, 1, 0)}},
			{left, level == 2, []api.Node{node(1, 0, 1), node(2, 0, 0), node(level, 0, 0)}},
			{line, level == 3, []api.Node{node(1, 0, 1), node(2, 0, 0), node(level, 1, 1)}},
			{line, level == 2, []api.Node{node(1, 0, 1), node(level, 0, 0), node(3, 1, 1)}},
			{line, level == 1, []api.Node{node(level, 0, 1), node(2, 0, 0), node(3, 1, 1)}},
			{line, level == 1 || level == 3, []api.Node{node(1, 0, 1), node(2, 0, 0), node(level, 1, 1), node(3, 1, 1)}},
			{line, level == 1 || level == 2, []api.Node{node(1, 0, 1), node(2, 0, 0), node(level, 0, 0), node(3, 1, 1)}},
			{line, level == 3, []api.Node{node(1, 0, 1), node(1, 0, 0), node(2, 0, 1), node(3, 2, 2), node(level, 2, 2)}},
		} {
			checkRight(t, api.Tree{States: 2, Hood: drawn(c.drawing), Nodes: c.nodes}, c.want)
		}
		for _, l := range [][]api.Point{drawn(moore), drawn(square)} {
			own := always(0).tree(2, l)
			for i := range own.Nodes {
				other := laidOut(own)
				other.Nodes[i].Level = level
				checkRight(t, other, level == i+1)
			}
		}
	}
}

// P12.1: the last node has the greatest level, even if another one does.
func TestRightRoot(t *testing.T) {
	for _, drawing := range append(slices.Clone(small), large...) {
		l := drawn(drawing)
		own := always(1).tree(2, l)
		for n := range len(l) {
			other := laidOut(own)
			other.Nodes = other.Nodes[:n]
			checkRight(t, other, false)
			other = laidOut(own)
			other.Nodes = append(other.Nodes, own.Nodes[n])
			checkRight(t, other, n == len(l)-1)
		}
	}
}

// P12.1: numbers of elements of each node.
func TestRightLengths(t *testing.T) {
	for _, drawing := range []string{single, left, neumann, square} {
		for states := 2; states <= api.MaxStates; states++ {
			own := reading(len(drawn(drawing))/2).tree(states, drawn(drawing))
			for i := range own.Nodes {
				for _, n := range []int{0, 1, 2, states - 1, states, states + 1, 2 * states, 100} {
					other := laidOut(own)
					next := slices.Repeat(other.Nodes[i].Next, 50)
					other.Nodes[i].Next = next[:n]
					checkRight(t, other, n == states)
				}
				other := laidOut(own)
				other.Nodes[i].Next = nil
				checkRight(t, other, false)
			}
		}
	}
}

// P12.1: elements of nodes of level 1, needed or not, at each place.
func TestRightStatesOfNodes(t *testing.T) {
	for states := 2; states <= api.MaxStates; states++ {
		for _, e := range append([]int{states - 1, states, states + 1}, ints...) {
			for place := range states {
				want := e >= 0 && e < states
				next := make([]int, states)
				next[place] = e
				zeros := make([]int, states)
				checkRight(t, api.Tree{States: states, Hood: drawn(single), Nodes: []api.Node{node(1, next...)}}, want)
				checkRight(t, api.Tree{States: states, Hood: drawn(single), Nodes: []api.Node{node(1, next...), node(1, zeros...)}}, want)
				checkRight(t, api.Tree{States: states, Hood: drawn(single), Nodes: []api.Node{node(1, zeros...), node(1, next...)}}, want)
				checkRight(t, api.Tree{States: states, Hood: drawn(left), Nodes: []api.Node{node(1, next...), node(2, zeros...)}}, want)
				own := always(0).tree(states, drawn(square))
				own.Nodes[0].Next[place] = e
				checkRight(t, own, want)
			}
		}
	}
}

// P12.1: elements of nodes of higher levels: indices of nodes that are not before them, or of another level than the one below.
func TestRightIndices(t *testing.T) {
	own := api.Tree{States: 2, Hood: drawn("... ooo o.."), Nodes: []api.Node{
		node(1, 0, 1), node(2, 0, 0), node(1, 1, 1), node(3, 1, 1), node(2, 0, 2), node(3, 4, 1), node(1, 0, 0), node(2, 2, 6), node(4, 3, 5),
		node(4, 5, 5), node(3, 7, 4), node(4, 10, 3),
	}}
	checkRight(t, own, true)
	below := map[int][]int{1: {0, 1}, 2: {0, 2, 6}, 3: {1, 4, 7}, 4: {3, 5, 10}}
	for i, old := range own.Nodes {
		for place := range old.Next {
			for _, e := range append([]int{i - 1, i, i + 1, 10, 11, 12, 13}, ints...) {
				other := laidOut(own)
				other.Nodes[i].Next[place] = e
				checkRight(t, other, slices.Contains(below[old.Level], e) && (e < i || old.Level == 1))
			}
		}
	}
}

// P12.1: the elements of the nodes of a tree with the greatest numbers of levels, of states and of nodes.
func TestRightIndicesOfLargeTrees(t *testing.T) {
	rng := rand.New(rand.NewSource(122))
	own := largestTree(rng)
	checkRight(t, own, true)
	for range 20 {
		i, place := rng.Intn(4096), rng.Intn(8)
		for _, e := range []int{-1, i - 1, i, i + 1, 4094, 4095, 4096, rng.Intn(4096), ints[rng.Intn(len(ints))]} {
			old := own.Nodes[i].Next[place]
			own.Nodes[i].Next[place] = e
			want := e >= 0 && e < 8
			if own.Nodes[i].Level > 1 {
				want = e >= 0 && e < i && own.Nodes[e].Level == own.Nodes[i].Level-1
			}
			checkRight(t, own, want)
			own.Nodes[i].Next[place] = old
		}
	}
}

// P12.1: nodes that are equal or not needed, and nodes in another order than that of a reduced tree.
func TestRightNotReduced(t *testing.T) {
	for _, nodes := range [][]api.Node{
		{node(1, 0, 1), node(1, 0, 1), node(2, 0, 1)},                                 // equal nodes, both needed
		{node(1, 0, 1), node(1, 0, 1), node(2, 0, 0)},                                 // equal nodes, one needed
		{node(1, 0, 1), node(2, 0, 0), node(2, 0, 0)},                                 // equal roots
		{node(1, 0, 1), node(1, 1, 0), node(2, 0, 0)},                                 // a node that is not needed
		{node(1, 0, 1), node(2, 0, 0), node(1, 1, 0), node(2, 0, 0)},                  // one of each level that are not needed
		{node(1, 0, 1), node(1, 1, 0), node(2, 1, 0)},                                 // the second one is visited first
		{node(1, 0, 0), node(1, 0, 1), node(1, 1, 0), node(2, 2, 1)},                  // not visited in order, and one not at all
		{node(1, 1, 0), node(1, 0, 1), node(2, 0, 1), node(1, 0, 0), node(2, 3, 3)},   // another root before
		{node(1, 0, 1), node(1, 0, 1), node(1, 0, 1), node(2, 2, 2), node(2, 0, 1)},   // much of it at once
		{node(1, 0, 1), node(2, 0, 0), node(1, 1, 1), node(2, 2, 2), node(2, 0, 2)},   // levels that go down and up
		{node(1, 1, 1), node(1, 1, 1), node(1, 1, 1), node(1, 1, 1), node(2, 3, 0)},   // the first and the last one are needed
		{node(1, 0, 1), node(2, 0, 0), node(2, 0, 0), node(2, 0, 0), node(2, 0, 0)},   // many equal roots
		{node(1, 0, 1), node(1, 1, 0), node(2, 0, 1), node(2, 1, 0), node(2, 1, 1)},   // many different roots
		{node(1, 0, 1), node(1, 1, 0), node(1, 0, 0), node(1, 1, 1), node(2, 0, 0)},   // all nodes of the level 1
		{node(1, 0, 1), node(2, 0, 0), node(1, 1, 0), node(1, 0, 0), node(2, 3, 0)},   // a root between nodes of level 1
		{node(1, 0, 0), node(1, 0, 0), node(2, 0, 0), node(2, 1, 1), node(2, 0, 1)},   // equal ones of both levels
		{node(1, 1, 0), node(2, 0, 0), node(1, 1, 0), node(2, 2, 2), node(2, 2, 0)},   // equal ones that come late
		{node(1, 1, 1), node(1, 0, 0), node(2, 1, 0)},                                 // the constants in the wrong order
		{node(1, 0, 0), node(2, 0, 0)}, {node(1, 1, 1), node(1, 1, 1), node(2, 1, 1)}, // constants, reduced and not
	} {
		checkRight(t, api.Tree{States: 2, Hood: drawn(left), Nodes: nodes}, true)
	}
	rng := rand.New(rand.NewSource(123))
	for _, drawing := range append(slices.Clone(small), large...) {
		for range 30 {
			states := 2 + rng.Intn(7)
			own := randomRule(rng, states, len(drawn(drawing))).tree(states, drawn(drawing))
			checkRight(t, reordered(rng, own), true)
			at := rng.Intn(len(own.Nodes))
			checkRight(t, inserted(own, at, own.Nodes[at]), true)
			checkRight(t, inserted(own, at, node(1, make([]int, states)...)), true)
		}
	}
}

// P12.1: random trees, and others that differ from them in one number or in the length of one list.
func TestRightRandom(t *testing.T) {
	rng := rand.New(rand.NewSource(124))
	for range 300 {
		for _, drawing := range small {
			own := randomTree(rng, 2+rng.Intn(3), drawn(drawing), rng.Intn(20))
			checkRight(t, own, true)
			for range 5 {
				other := broken(rng, own)
				checkRight(t, other, rightModel(other))
			}
		}
	}
}

// broken returns a tree that differs from a valid one in one place.
func broken(rng *rand.Rand, t api.Tree) api.Tree {
	t = laidOut(t)
	own := &t.Nodes[rng.Intn(len(t.Nodes))]
	n := rng.Intn(len(t.Nodes)+4) - 2
	if rng.Intn(3) == 0 {
		n = ints[rng.Intn(len(ints))]
	}
	switch p := &t.Hood[rng.Intn(len(t.Hood))]; rng.Intn(9) {
	case 0:
		t.States = n
	case 1:
		p.X = n
	case 2:
		p.Y = n
	case 3:
		own.Level = n
	case 4:
		own.Next = own.Next[:rng.Intn(len(own.Next)+1)]
	case 5:
		own.Next = append(own.Next, own.Next[0])
	case 6:
		t.Nodes = t.Nodes[:rng.Intn(len(t.Nodes)+1)]
	default:
		own.Next[rng.Intn(len(own.Next))] = n
	}
	return t
}
