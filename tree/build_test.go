package tree_test

import (
	"math"
	"math/rand"
	"slices"
	"testing"

	"cellular/api"
	"cellular/tree"
)

// checkBuilt compares a tree that was built with the expected one, which is a reduced tree, or the zero value with an error.
func checkBuilt(t *testing.T, got api.Tree, e api.Errno, want api.Tree, wanted api.Errno) {
	t.Helper()
	if !sameModel(got, want) || e != wanted {
		t.Errorf("the tree is %s with the error %d, not %s with %d", show(got), e, show(want), wanted)
	}
	if wanted == api.OK && (!rightModel(got) || !isReduced(got) || !tree.Right(got)) {
		t.Errorf("the tree %s is not valid, or not reduced", show(got))
	}
}

// checkConstant compares Constant with the expected results.
func checkConstant(t *testing.T, states int, l []api.Point, s int, want api.Tree, wanted api.Errno) {
	t.Helper()
	hoodUnchanged(t, l, func(l []api.Point) {
		got, e := tree.Constant(states, l, s)
		checkBuilt(t, got, e, want, wanted)
	})
}

// checkRead compares Read with the expected results.
func checkRead(t *testing.T, states int, l []api.Point, k int, want api.Tree, wanted api.Errno) {
	t.Helper()
	hoodUnchanged(t, l, func(l []api.Point) {
		got, e := tree.Read(states, l, k)
		checkBuilt(t, got, e, want, wanted)
	})
}

// P12.4: trees of Constant, node by node.
func TestConstantNodes(t *testing.T) {
	for _, c := range []struct {
		states  int
		drawing string
		s       int
		nodes   []api.Node
	}{
		{2, single, 0, []api.Node{node(1, 0, 0)}},
		{2, single, 1, []api.Node{node(1, 1, 1)}},
		{3, beside, 2, []api.Node{node(1, 2, 2, 2)}},
		{8, single, 7, []api.Node{node(1, 7, 7, 7, 7, 7, 7, 7, 7)}},
		{2, left, 0, []api.Node{node(1, 0, 0), node(2, 0, 0)}},
		{2, left, 1, []api.Node{node(1, 1, 1), node(2, 0, 0)}},
		{4, line, 0, []api.Node{node(1, 0, 0, 0, 0), node(2, 0, 0, 0, 0), node(3, 1, 1, 1, 1)}},
		{4, line, 3, []api.Node{node(1, 3, 3, 3, 3), node(2, 0, 0, 0, 0), node(3, 1, 1, 1, 1)}},
		{3, neumann, 1, []api.Node{node(1, 1, 1, 1), node(2, 0, 0, 0), node(3, 1, 1, 1), node(4, 2, 2, 2), node(5, 3, 3, 3)}},
	} {
		l := drawn(c.drawing)
		checkConstant(t, c.states, l, c.s, api.Tree{States: c.states, Hood: l, Nodes: c.nodes}, api.OK)
	}
}

// P12.4: each number of states and each state, with many neighbourhoods.
func TestConstant(t *testing.T) {
	every := drawn(square)
	for n := range every {
		for states := 2; states <= api.MaxStates; states++ {
			for s := range states {
				checkConstant(t, states, every[:n+1], s, always(s).tree(states, every[:n+1]), api.OK)
				checkConstant(t, states, every[n:], s, always(s).tree(states, every[n:]), api.OK)
			}
		}
	}
	for _, drawing := range append(slices.Clone(small), large...) {
		checkConstant(t, 3, drawn(drawing), 2, always(2).tree(3, drawn(drawing)), api.OK)
	}
}

// P12.5: trees of Read, node by node, for the first, a middle and the last position.
func TestReadNodes(t *testing.T) {
	for _, c := range []struct {
		states  int
		drawing string
		k       int
		nodes   []api.Node
	}{
		// The examples of the chapter.
		{2, single, 0, []api.Node{node(1, 0, 1)}},
		{2, left, 0, []api.Node{node(1, 0, 0), node(1, 1, 1), node(2, 0, 1)}},
		{2, left, 1, []api.Node{node(1, 0, 1), node(2, 0, 0)}},
		{8, single, 0, []api.Node{node(1, 0, 1, 2, 3, 4, 5, 6, 7)}},
		{3, left, 0, []api.Node{node(1, 0, 0, 0), node(1, 1, 1, 1), node(1, 2, 2, 2), node(2, 0, 1, 2)}},
		{3, left, 1, []api.Node{node(1, 0, 1, 2), node(2, 0, 0, 0)}},
		{2, line, 0, []api.Node{node(1, 0, 0), node(2, 0, 0), node(1, 1, 1), node(2, 2, 2), node(3, 1, 3)}},
		{2, line, 1, []api.Node{node(1, 0, 0), node(1, 1, 1), node(2, 0, 1), node(3, 2, 2)}},
		{2, line, 2, []api.Node{node(1, 0, 1), node(2, 0, 0), node(3, 1, 1)}},
		{3, line, 0, []api.Node{
			node(1, 0, 0, 0), node(2, 0, 0, 0), node(1, 1, 1, 1), node(2, 2, 2, 2), node(1, 2, 2, 2), node(2, 4, 4, 4), node(3, 1, 3, 5),
		}},
		{2, neumann, 0, []api.Node{
			node(1, 0, 0), node(2, 0, 0), node(3, 1, 1), node(4, 2, 2), node(1, 1, 1), node(2, 4, 4), node(3, 5, 5), node(4, 6, 6),
			node(5, 3, 7),
		}},
		{3, neumann, 2, []api.Node{
			node(1, 0, 0, 0), node(2, 0, 0, 0), node(1, 1, 1, 1), node(2, 2, 2, 2), node(1, 2, 2, 2), node(2, 4, 4, 4), node(3, 1, 3, 5),
			node(4, 6, 6, 6), node(5, 7, 7, 7),
		}},
		{4, neumann, 3, []api.Node{
			node(1, 0, 0, 0, 0), node(1, 1, 1, 1, 1), node(1, 2, 2, 2, 2), node(1, 3, 3, 3, 3), node(2, 0, 1, 2, 3), node(3, 4, 4, 4, 4),
			node(4, 5, 5, 5, 5), node(5, 6, 6, 6, 6),
		}},
		{4, neumann, 4, []api.Node{
			node(1, 0, 1, 2, 3), node(2, 0, 0, 0, 0), node(3, 1, 1, 1, 1), node(4, 2, 2, 2, 2), node(5, 3, 3, 3, 3),
		}},
	} {
		l := drawn(c.drawing)
		checkRead(t, c.states, l, c.k, api.Tree{States: c.states, Hood: l, Nodes: c.nodes}, api.OK)
	}
}

// P12.5: each number of states and each position, with many neighbourhoods.
func TestRead(t *testing.T) {
	every := drawn(square)
	for n := range every {
		for k := range n + 1 {
			for states := 2; states <= api.MaxStates; states++ {
				checkRead(t, states, every[:n+1], k, reading(k).tree(states, every[:n+1]), api.OK)
			}
			checkRead(t, 3, every[24-n:], k, reading(k).tree(3, every[24-n:]), api.OK)
		}
	}
	for _, drawing := range append(slices.Clone(small), large...) {
		for k := range drawn(drawing) {
			checkRead(t, 3, drawn(drawing), k, reading(k).tree(3, drawn(drawing)), api.OK)
		}
	}
}

// P12.4, P12.5: numbers that are no numbers of states, with each other argument right or wrong.
func TestBuildStates(t *testing.T) {
	for _, drawing := range []string{single, left, square} {
		l := drawn(drawing)
		for _, states := range ints {
			for _, n := range []int{math.MinInt, -1, 0, 1, 100, math.MaxInt} {
				if states >= 2 && states <= 8 {
					continue
				}
				checkConstant(t, states, l, n, api.Tree{}, api.ErrArg)
				checkRead(t, states, l, n, api.Tree{}, api.ErrArg)
			}
		}
	}
}

// P12.4, P12.5: lists that are no valid neighbourhoods, with each other argument right or wrong.
func TestBuildHoods(t *testing.T) {
	for _, l := range wrongHoods() {
		for _, states := range []int{math.MinInt, -1, 0, 1, 2, 3, 8, 9, math.MaxInt} {
			for _, n := range []int{math.MinInt, -1, 0, 1, 8, len(l) - 1, len(l), math.MaxInt} {
				checkConstant(t, states, l, n, api.Tree{}, api.ErrArg)
				checkRead(t, states, l, n, api.Tree{}, api.ErrArg)
			}
		}
	}
}

// P12.4: numbers that are states or not.
func TestConstantStates(t *testing.T) {
	for _, drawing := range append(slices.Clone(small), large...) {
		l := drawn(drawing)
		for states := 2; states <= api.MaxStates; states++ {
			for _, s := range append([]int{states - 1, states, states + 1}, ints...) {
				if s >= 0 && s < states {
					checkConstant(t, states, l, s, always(s).tree(states, l), api.OK)
				} else {
					checkConstant(t, states, l, s, api.Tree{}, api.ErrState)
				}
			}
		}
	}
}

// P12.5: numbers that are indices of the neighbourhood or not.
func TestReadIndices(t *testing.T) {
	for _, drawing := range append(slices.Clone(small), large...) {
		l := drawn(drawing)
		for _, k := range append([]int{len(l) - 1, len(l), len(l) + 1, -len(l)}, ints...) {
			for _, states := range []int{2, 8} {
				if k >= 0 && k < len(l) {
					checkRead(t, states, l, k, reading(k).tree(states, l), api.OK)
				} else {
					checkRead(t, states, l, k, api.Tree{}, api.ErrArg)
				}
			}
		}
	}
}

// P12.8: the numbers of nodes of each level.
func TestShapes(t *testing.T) {
	every := drawn(square)
	for n := 1; n <= 25; n++ {
		for states := 2; states <= api.MaxStates; states++ {
			for s := range states {
				own, _ := tree.Constant(states, every[:n], s)
				if sizes := tree.Size(own); !slices.Equal(sizes, slices.Repeat([]int{1}, n)) || len(own.Nodes) != n {
					t.Errorf("Constant(%d, .., %d) for %d offsets has the sizes %v", states, s, n, sizes)
				}
			}
			for k := range n {
				own, _ := tree.Read(states, every[:n], k)
				below := n - k - 1
				want := append(slices.Repeat([]int{states}, below), slices.Repeat([]int{1}, k+1)...)
				if sizes := tree.Size(own); !slices.Equal(sizes, want) || len(own.Nodes) != below*states+k+1 {
					t.Errorf("Read(%d, .., %d) for %d offsets has the sizes %v, not %v", states, k, n, sizes, want)
				}
			}
		}
	}
	if own, _ := tree.Read(8, every, 0); len(own.Nodes) != 193 {
		t.Errorf("the greatest tree of Read has %d nodes", len(own.Nodes))
	}
}

// P12.9, P12.10: the values for all states, or for many, also with another node in front.
func TestValues(t *testing.T) {
	rng := rand.New(rand.NewSource(129))
	for _, drawing := range append(slices.Clone(small), large...) {
		l := drawn(drawing)
		for states := 2; states <= api.MaxStates; states++ {
			list := someStates(rng, states, len(l))
			for s := range states {
				own, _ := tree.Constant(states, l, s)
				checkBehind(t, own, list, func([]int) int { return s })
			}
			for k := range l {
				own, _ := tree.Read(states, l, k)
				checkBehind(t, own, list, func(in []int) int { return in[k] })
			}
		}
	}
}

// checkBehind compares the values of a tree with the expected ones, and those of the tree with another node in front.
func checkBehind(t *testing.T, own api.Tree, list [][]int, want func(in []int) int) {
	t.Helper()
	var next []int
	for s := range own.States {
		next = append(next, own.States-1-s)
	}
	behind := inserted(own, 0, node(1, next...))
	if !tree.Right(behind) {
		t.Errorf("%s is not valid with another node in front", show(own))
	}
	for _, in := range list {
		if s, e := tree.Eval(own, in); s != want(in) || e != api.OK {
			t.Fatalf("Eval of %s for %v is %d with the error %d", show(own), in, s, e)
		}
		if s, e := tree.Eval(behind, in); s != want(in) || e != api.OK {
			t.Fatalf("Eval of %s for %v is %d with the error %d", show(behind), in, s, e)
		}
	}
}

// P12.4, P12.5: a result is new memory, of which no two lists share any.
func TestBuiltIsNew(t *testing.T) {
	for _, drawing := range append(slices.Clone(small), large...) {
		for states := 2; states <= api.MaxStates; states++ {
			constant := func(l []api.Point) (api.Tree, api.Errno) { return tree.Constant(states, l, states-1) }
			checkNew(t, drawn(drawing), constant)
			for k := range drawn(drawing) {
				checkNew(t, drawn(drawing), func(l []api.Point) (api.Tree, api.Errno) { return tree.Read(states, l, k) })
			}
		}
	}
}

// checkNew writes into each list of a tree that was built, and behind it, and checks that nothing else changes.
func checkNew(t *testing.T, l []api.Point, build func(l []api.Point) (api.Tree, api.Errno)) {
	t.Helper()
	given := laid(l, api.Point{X: 77, Y: -77})
	got, _ := build(given)
	want := laidOut(got)
	for i := range got.Nodes {
		fill(got.Nodes[i].Next, 99)
		want.Nodes[i].Next = slices.Repeat([]int{99}, got.States)
		if !sameModel(got, want) {
			t.Errorf("the node %d of %s shares memory", i, show(got))
		}
	}
	fill(got.Hood, api.Point{X: 99})
	if !slices.Equal(given[:cap(given)], append(l, api.Point{X: 77, Y: -77}, api.Point{X: 77, Y: -77})) {
		t.Errorf("the neighbourhood of %s shares memory with the argument", show(got))
	}
	fill(got.Nodes, node(99))
	again, e := build(given)
	if !isReduced(again) || !slices.Equal(again.Hood, l) || !rightModel(again) {
		t.Errorf("a change of a tree changes the next one to %s with the error %d", show(again), e)
	}
	fill(given, api.Point{X: 98})
	if !slices.Equal(again.Hood, l) {
		t.Errorf("a change of the argument changes the tree to %s", show(again))
	}
}

// fill sets all elements of a list and those that its memory has behind them.
func fill[E any](l []E, e E) {
	l = l[:cap(l)]
	for i := range l {
		l[i] = e
	}
}
