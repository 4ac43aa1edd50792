package reduce_test

import (
	"math"
	"math/rand"
	"slices"
	"testing"

	"cellular/api"
	"cellular/reduce"
	"cellular/tree"
)

// checkReduce compares Reduce with the expected result. If this is a tree, Reduce of it is the same tree.
func checkReduce(t *testing.T, own, want api.Tree) {
	t.Helper()
	wanted := api.OK
	if want.States == 0 {
		// The zero value, which checkTree does not examine.
		wanted = api.ErrRule
	}
	unchanged(t, []api.Tree{own}, func(l []api.Tree) {
		checkTree(t, reduce.Reduce(l[0]), wanted, want, wanted, "Reduce of", own)
	})
	if again := reduce.Reduce(want); !sameTree(again, want) {
		t.Errorf("Reduce of the reduced tree %s is %s", show(want), show(again))
	}
}

// checkSameRule checks that Reduce of several trees is one reduced tree.
func checkSameRule(t *testing.T, want api.Tree, l ...api.Tree) {
	t.Helper()
	for _, own := range append(l, want) {
		checkReduce(t, own, want)
	}
}

// P13.1: trees with equal nodes, with nodes that become equal only after others below them were found equal, with nodes that are not
// needed, and with nodes in another order, node by node.
func TestReduceNodes(t *testing.T) {
	for _, c := range []struct {
		states      int
		drawing     string
		nodes, want []api.Node
	}{
		// The example of the chapter.
		{2, left, []api.Node{node(1, 0, 1), node(1, 0, 1), node(2, 0, 1)}, []api.Node{node(1, 0, 1), node(2, 0, 0)}},
		// Reduced already.
		{2, single, []api.Node{node(1, 0, 1)}, []api.Node{node(1, 0, 1)}},
		{2, left, []api.Node{node(1, 1, 0), node(1, 0, 1), node(2, 0, 1)}, []api.Node{node(1, 1, 0), node(1, 0, 1), node(2, 0, 1)}},
		// The root only is needed.
		{3, single, []api.Node{node(1, 0, 1, 2), node(1, 2, 1, 0), node(1, 2, 1, 1)}, []api.Node{node(1, 2, 1, 1)}},
		{2, beside, []api.Node{node(1, 0, 1), node(1, 0, 1), node(1, 0, 1)}, []api.Node{node(1, 0, 1)}},
		// A node that is not needed, first, in between and before the root.
		{2, left, []api.Node{node(1, 1, 1), node(1, 0, 1), node(2, 1, 1)}, []api.Node{node(1, 0, 1), node(2, 0, 0)}},
		{2, left, []api.Node{node(1, 0, 0), node(1, 0, 1), node(1, 1, 0), node(2, 0, 2)}, []api.Node{
			node(1, 0, 0), node(1, 1, 0), node(2, 0, 1),
		}},
		{2, left, []api.Node{node(1, 0, 1), node(2, 0, 0), node(1, 1, 1), node(2, 0, 0)}, []api.Node{node(1, 0, 1), node(2, 0, 0)}},
		// Another root, and an equal one.
		{2, left, []api.Node{node(1, 0, 1), node(1, 1, 1), node(2, 0, 1), node(2, 1, 0)}, []api.Node{
			node(1, 1, 1), node(1, 0, 1), node(2, 0, 1),
		}},
		// In another order.
		{2, left, []api.Node{node(1, 1, 1), node(1, 0, 1), node(2, 1, 0)}, []api.Node{node(1, 0, 1), node(1, 1, 1), node(2, 0, 1)}},
		{3, left, []api.Node{node(1, 0, 0, 0), node(1, 1, 1, 1), node(1, 2, 2, 2), node(2, 2, 0, 1)}, []api.Node{
			node(1, 2, 2, 2), node(1, 0, 0, 0), node(1, 1, 1, 1), node(2, 0, 1, 2),
		}},
		{2, line, []api.Node{node(1, 0, 0), node(1, 1, 1), node(2, 0, 1), node(2, 1, 0), node(3, 3, 2)}, []api.Node{
			node(1, 1, 1), node(1, 0, 0), node(2, 0, 1), node(2, 1, 0), node(3, 2, 3),
		}},
		// The walk finishes a node before it visits the next one.
		{2, line, []api.Node{node(1, 0, 0), node(1, 1, 1), node(2, 0, 0), node(2, 1, 1), node(3, 2, 3)}, []api.Node{
			node(1, 0, 0), node(2, 0, 0), node(1, 1, 1), node(2, 2, 2), node(3, 1, 3),
		}},
		// Equal only after others below them were found equal.
		{2, line, []api.Node{
			node(1, 0, 1), node(1, 0, 1), node(2, 0, 1), node(2, 1, 0), node(2, 1, 1), node(3, 2, 3), node(3, 4, 2),
		}, []api.Node{node(1, 0, 1), node(2, 0, 0), node(3, 1, 1)}},
		{2, line, []api.Node{
			node(1, 1, 0), node(1, 1, 1), node(1, 1, 0), node(2, 0, 1), node(2, 2, 1), node(3, 3, 4), node(3, 4, 3),
		}, []api.Node{node(1, 1, 0), node(1, 1, 1), node(2, 0, 1), node(3, 2, 2)}},
		// Nodes of different levels with the same elements are not equal.
		{2, line, []api.Node{node(1, 0, 0), node(2, 0, 0), node(1, 0, 1), node(2, 0, 2), node(3, 1, 3)}, []api.Node{
			node(1, 0, 0), node(2, 0, 0), node(1, 0, 1), node(2, 0, 2), node(3, 1, 3),
		}},
	} {
		checkReduce(t, made(c.states, c.drawing, c.nodes...), made(c.states, c.drawing, c.want...))
	}
}

// P13.1: all trees with two states, one to three offsets and few nodes: each list of new states has one reduced tree.
func TestReduceLists(t *testing.T) {
	rng := rand.New(rand.NewSource(131))
	for _, drawing := range []string{single, left, line} {
		l := drawn(drawing)
		for _, list := range everyState(2, 1<<len(l)) {
			want := listed(2, l, list)
			checkSameRule(t, want, other(rng, want), grown(rng, want, 40))
		}
	}
}

// P13.1: random trees, compared with the new states for all states of the neighbourhood.
func TestReduceRandom(t *testing.T) {
	rng := rand.New(rand.NewSource(132))
	for _, drawing := range tiny {
		l := drawn(drawing)
		for states := 2; states <= api.MaxStates; states++ {
			for range 10 {
				own := randomTree(rng, states, l, rng.Intn(30))
				want := listed(states, l, valuesOf(own))
				checkSameRule(t, want, own, other(rng, own))
			}
		}
	}
}

// P13.1, P13.8: rules of each number of states with many neighbourhoods, up to MaxHood offsets: the reduced tree, and others with the same
// new states.
func TestReduceRules(t *testing.T) {
	rng := rand.New(rand.NewSource(133))
	for _, drawing := range all {
		l := drawn(drawing)
		for states := 2; states <= api.MaxStates; states++ {
			k := rng.Intn(len(l))
			for _, r := range []rule{
				always(rng.Intn(states)), reading(k), summing(states), randomRule(rng, states, len(l)), randomRule(rng, states, len(l)),
				picking(states, []int{0, len(l) - 1}, func(in []int) int { return max(in[0], in[len(in)-1]) }),
			} {
				want := r.tree(states, l)
				checkSameRule(t, want, other(rng, want), grown(rng, want, 300), inserted(want, 0, node(1, make([]int, states)...)))
				checkFewest(t, want, other(rng, want), want)
			}
		}
	}
}

// checkFewest checks that trees are Equal, and that none of them has fewer nodes than Reduce of one.
func checkFewest(t *testing.T, l ...api.Tree) {
	t.Helper()
	for _, own := range l {
		fewest := reduce.Reduce(own)
		for _, other := range l {
			if !reduce.Equal(own, other) || len(other.Nodes) < len(fewest.Nodes) {
				t.Errorf("%s is not Equal to %s, or has fewer nodes than Reduce of it", show(other), show(own))
			}
		}
	}
}

// P13.1, P13.8: trees with the greatest numbers of states, of levels and of nodes, some of them reduced.
func TestReduceLargest(t *testing.T) {
	rng := rand.New(rand.NewSource(134))
	for _, n := range []int{4096, 4095, 2000} {
		want := widest(rng, n)
		if len(want.Nodes) != n {
			t.Fatalf("a tree has %d nodes, not %d", len(want.Nodes), n)
		}
		checkSameRule(t, want, grown(rng, want, 4096), reordered(rng, want))
		checkFewest(t, want, grown(rng, want, 4096))
	}
	for _, states := range []int{2, 8} {
		for _, drawing := range []string{moore, square} {
			for _, r := range []rule{always(1), reading(3), summing(states)} {
				want := r.tree(states, drawn(drawing))
				checkSameRule(t, want, grown(rng, want, 4096))
				checkFewest(t, want, grown(rng, want, 4096))
			}
		}
	}
	for _, drawing := range []string{single, left} {
		own := randomTree(rng, 8, drawn(drawing), 4000)
		checkReduce(t, grown(rng, own, 4096), listed(8, own.Hood, valuesOf(own)))
	}
}

// P13.1, and rule 1 for all calls: trees whose nodes are reached on very many ways, and of whose nodes there are many equal ones.
func TestReduceManyWays(t *testing.T) {
	rng := rand.New(rand.NewSource(135))
	for _, states := range []int{2, 3, 8} {
		sum := summing(states).tree(states, drawn(square))
		checkSameRule(t, sum, grown(rng, sum, 4096))
		// All nodes lead to the same new state in the end, but each of them has different elements.
		own := api.Tree{States: states, Hood: drawn(square)}
		for level := 1; level <= 25; level++ {
			below := len(own.Nodes) - states
			for i := range states {
				next := slices.Repeat([]int{1}, states)
				if level > 1 {
					for k := range next {
						next[k] = below + (i+k)%states
					}
				}
				own.Nodes = append(own.Nodes, node(level, next...))
			}
		}
		checkReduce(t, own, always(1).tree(states, drawn(square)))
	}
}

// wrongTrees returns trees that are not valid: each condition is broken once, and mostly all others hold.
func wrongTrees() []api.Tree {
	nodes := []api.Node{node(1, 0, 1), node(1, 1, 1), node(2, 0, 1)}
	list := []api.Tree{
		{},
		// Numbers of states.
		made(1, left, node(1, 0), node(2, 0)), made(0, left, node(1), node(2)), made(-1, left, node(1), node(2)),
		made(9, single, node(1, 0, 1, 2, 3, 4, 5, 6, 7, 8)), made(3, left, nodes...), made(math.MinInt, left, nodes...),
		made(math.MaxInt, left, nodes...), made(1<<32+2, left, nodes...),
		// Neighbourhoods.
		{States: 2, Nodes: nodes}, {States: 2, Hood: drawn(single), Nodes: nodes}, {States: 2, Hood: drawn(line), Nodes: nodes},
		{States: 2, Hood: []api.Point{{}, {X: -1}}, Nodes: nodes}, {States: 2, Hood: []api.Point{{Y: 1}, {}}, Nodes: nodes},
		{States: 2, Hood: []api.Point{{}, {}}, Nodes: nodes}, {States: 2, Hood: []api.Point{{X: -3}, {}}, Nodes: nodes},
		{States: 2, Hood: []api.Point{{}, {Y: 3}}, Nodes: nodes}, {States: 2, Hood: []api.Point{{Y: math.MinInt}, {}}, Nodes: nodes},
		always(0).tree(2, append(drawn(square), api.Point{Y: 3})),
		// Numbers of nodes.
		made(2, left), made(2, single, slices.Repeat([]api.Node{node(1, 0, 1)}, 4097)...),
		// Levels.
		made(2, left, node(1, 0, 1), node(0, 0, 0), node(2, 0, 0)), made(2, left, node(1, 0, 1), node(-1, 0, 0), node(2, 0, 0)),
		made(2, left, node(1, 0, 1), node(2, 0, 0), node(3, 1, 1)), made(2, left, node(1, 0, 1), node(3, 0, 0)),
		made(2, left, node(1, 0, 1), node(2, 0, 0), node(1, 0, 1)), made(2, left, node(1, 0, 1)),
		// Numbers of elements.
		made(2, left, node(1, 0, 1), node(1), node(2, 0, 0)), made(2, left, node(1, 0, 1), node(1, 1), node(2, 0, 0)),
		made(2, left, node(1, 0, 1), node(1, 1, 1, 1), node(2, 0, 0)), made(2, left, node(1, 0, 1), node(2, 0)),
		made(2, left, node(1, 0, 1), node(2, 0, 0, 0)), made(8, single, node(1, 0, 1, 2, 3, 4, 5, 6)),
		// New states.
		made(2, left, node(1, 0, 2), node(2, 0, 0)), made(2, left, node(1, -1, 0), node(2, 0, 0)), made(8, single, node(1, 0, 1, 2, 3, 4, 5, 6, 8)),
		made(2, left, node(1, 0, 1), node(1, 0, 2), node(2, 0, 0)), made(2, single, node(1, math.MinInt, 0)),
		made(2, single, node(1, 0, math.MaxInt)), made(2, single, node(1, 1<<32, 0)),
		// Indices.
		made(2, left, node(1, 0, 1), node(2, 0, 1)), made(2, left, node(1, 0, 1), node(2, -1, 0)), made(2, left, node(1, 0, 1), node(2, 0, 2)),
		made(2, left, node(1, 0, 1), node(2, 2, 0), node(1, 0, 1), node(2, 0, 0)), made(2, left, node(1, 0, 1), node(2, 0, math.MaxInt)),
		made(2, left, node(1, 0, 1), node(2, math.MinInt, 0)), made(2, left, node(1, 0, 1), node(2, 0, 0), node(2, 0, 1)),
		made(2, line, node(1, 0, 1), node(2, 0, 0), node(3, 1, 0)), made(2, line, node(1, 0, 1), node(2, 0, 0), node(3, 0, 1)),
		made(2, line, node(1, 0, 1), node(2, 0, 0), node(1, 0, 1), node(3, 1, 2)), made(2, left, node(1, 0, 1), node(2, 1<<32, 0)),
	}
	return append(list, widest(rand.New(rand.NewSource(136)), 4097))
}

// P13.1: trees that are not valid.
func TestReduceWrong(t *testing.T) {
	for i, own := range wrongTrees() {
		if tree.Right(own) {
			t.Errorf("the tree %d, %s, is valid", i, show(own))
		}
		checkReduce(t, own, api.Tree{})
	}
}

// P13.1, and LANGUAGE.md, rule 7: the result is new memory, also if the tree is reduced already.
func TestReduceIsNew(t *testing.T) {
	rng := rand.New(rand.NewSource(137))
	for _, drawing := range all {
		for _, states := range []int{2, 3, 8} {
			own := summing(states).tree(states, drawn(drawing))
			for _, given := range []api.Tree{own, other(rng, own)} {
				checkNew(t, []api.Tree{given}, func(l []api.Tree) (api.Tree, api.Errno) { return reduce.Reduce(l[0]), api.OK })
			}
		}
	}
}
