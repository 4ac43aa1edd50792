package lower_test

import (
	"math/rand"
	"slices"
	"testing"

	"cellular/api"
	"cellular/circuit"
	"cellular/lower"
	"cellular/notation"
	"cellular/reduce"
	"cellular/tree"
)

// circuitOf returns a circuit.
func circuitOf(inputs int, gates []api.Gate, outs ...int) api.Circuit {
	return api.Circuit{Inputs: inputs, Gates: gates, Outs: outs}
}

// The gates of steps 1 and 2 of the chapter's list for a single position, and for two positions with two states.
var (
	nots1  = []api.Gate{not(0)}
	nots2  = []api.Gate{not(0), not(1)}
	tests3 = []api.Gate{not(0), not(1), and(2, 3), and(0, 3), and(2, 1)}
	tests4 = []api.Gate{not(0), not(1), and(2, 3), and(0, 3), and(2, 1), and(0, 1)}
	tests5 = []api.Gate{
		not(0), not(1), not(2), and(3, 4), and(6, 5), and(0, 4), and(8, 5), and(3, 1), and(10, 5), and(0, 1), and(12, 5), and(3, 4), and(14, 2),
	}
	tests6 = append(slices.Clone(tests5), and(0, 4), and(16, 2))
	tests7 = append(slices.Clone(tests6), and(3, 1), and(18, 2))
	tests8 = append(slices.Clone(tests7), and(0, 1), and(20, 2))
)

// P18.2: rules with a single position that are written down, for two states.
func TestLowerTwoStates(t *testing.T) {
	for _, x := range []struct {
		nodes []api.Node
		gates []api.Gate
		out   int
	}{
		// No term, a single one, and two of them.
		{[]api.Node{node(1, 0, 0)}, []api.Gate{zero}, 2},
		{[]api.Node{node(1, 0, 1)}, nil, 0},
		{[]api.Node{node(1, 1, 0)}, nil, 1},
		{[]api.Node{node(1, 1, 1)}, []api.Gate{or(1, 0)}, 2},
		// Nodes before the root, which are not needed.
		{[]api.Node{node(1, 0, 0), node(1, 0, 1)}, []api.Gate{zero}, 0},
		{[]api.Node{node(1, 0, 1), node(1, 0, 0)}, []api.Gate{zero}, 2},
		{[]api.Node{node(1, 1, 1), node(1, 0, 0), node(1, 1, 1), node(1, 1, 0)}, []api.Gate{or(1, 0), zero, or(1, 0)}, 1},
		{[]api.Node{node(1, 0, 0), node(1, 0, 0), node(1, 0, 0)}, []api.Gate{zero, zero, zero}, 4},
	} {
		checkLower(t, made(2, 1, x.nodes...), circuitOf(1, append(slices.Clone(nots1), x.gates...), x.out))
	}
}

// P18.2: rules with a single position that are written down, for three states and more.
func TestLowerMoreStates(t *testing.T) {
	for _, x := range []struct {
		tests []api.Gate
		next  []int
		gates []api.Gate
		outs  []int
	}{
		{tests3, []int{0, 1, 2}, nil, []int{5, 6}},
		{tests3, []int{2, 0, 1}, nil, []int{6, 4}},
		{tests3, []int{0, 0, 0}, []api.Gate{zero, zero}, []int{7, 8}},
		{tests3, []int{1, 1, 1}, []api.Gate{or(4, 5), or(7, 6), zero}, []int{8, 9}},
		{tests3, []int{2, 0, 2}, []api.Gate{zero, or(4, 6)}, []int{7, 8}},
		{tests3, []int{0, 2, 0}, []api.Gate{zero}, []int{7, 5}},
		{tests4, []int{0, 1, 2, 3}, []api.Gate{or(5, 7), or(6, 7)}, []int{8, 9}},
		{tests4, []int{3, 0, 0, 0}, nil, []int{4, 4}},
		{tests4, []int{0, 3, 0, 3}, []api.Gate{or(5, 7), or(5, 7)}, []int{8, 9}},
		{tests4, []int{3, 3, 3, 3}, []api.Gate{or(4, 5), or(8, 6), or(9, 7), or(4, 5), or(11, 6), or(12, 7)}, []int{10, 13}},
		{tests5, []int{4, 1, 3, 2, 0}, []api.Gate{or(9, 11), or(11, 13)}, []int{16, 17, 7}},
		{tests5, []int{0, 0, 0, 0, 4}, []api.Gate{zero, zero}, []int{16, 17, 15}},
		{tests6, []int{5, 0, 5, 0, 0, 2}, []api.Gate{or(7, 11), or(7, 11)}, []int{18, 17, 19}},
		{tests7, []int{6, 5, 4, 3, 2, 1, 0}, []api.Gate{or(9, 13), or(20, 17), or(7, 13), or(22, 15), or(7, 9), or(24, 11)}, []int{21, 23, 25}},
		{tests8, []int{7, 0, 0, 0, 0, 0, 0, 0}, nil, []int{7, 7, 7}},
		{tests8, []int{0, 0, 0, 0, 0, 6, 6, 7}, []api.Gate{or(17, 19), or(22, 21), or(17, 19), or(24, 21)}, []int{21, 23, 25}},
	} {
		inputs := widthOf(len(x.next))
		checkLower(t, made(len(x.next), 1, node(1, x.next...)), circuitOf(inputs, append(slices.Clone(x.tests), x.gates...), x.outs...))
	}
}

// P18.2: rules with several positions that are written down.
func TestLowerPositions(t *testing.T) {
	for _, x := range []struct {
		own  api.Tree
		want api.Circuit
	}{
		// The second position, the first one, and both.
		{made(2, 2, node(1, 0, 1), node(2, 0, 0)), circuitOf(2, append(slices.Clone(nots2), and(2, 1), and(0, 1), or(4, 5)), 6)},
		{made(2, 2, node(1, 0, 0), node(1, 1, 1), node(2, 0, 1)),
			circuitOf(2, append(slices.Clone(nots2), zero, or(3, 1), and(2, 4), and(0, 5), or(6, 7)), 8)},
		{made(2, 2, node(1, 0, 1), node(1, 1, 0), node(2, 0, 1)), circuitOf(2, append(slices.Clone(nots2), and(2, 1), and(0, 3), or(4, 5)), 6)},
		// Equal nodes, an earlier root, and nodes of level 1 behind it.
		{made(2, 2, node(1, 0, 0), node(2, 0, 0), node(1, 0, 0), node(2, 2, 0)),
			circuitOf(2, append(slices.Clone(nots2), zero, and(2, 4), and(0, 4), or(5, 6), zero, and(2, 8), and(0, 4), or(9, 10)), 11)},
		// Three levels.
		{made(2, 3, node(1, 1, 0), node(2, 0, 0), node(3, 1, 1)), circuitOf(3,
			[]api.Gate{not(0), not(1), not(2), and(4, 5), and(1, 5), or(6, 7), and(3, 8), and(0, 8), or(9, 10)}, 11)},
		// Two bits: first all gates of the one, then those of the other.
		{made(3, 2, node(1, 0, 1, 2), node(2, 0, 0, 0)), circuitOf(4, []api.Gate{
			not(0), not(1), not(2), not(3), and(4, 5), and(0, 5), and(4, 1), and(6, 7), and(2, 7), and(6, 3),
			and(8, 12), and(9, 12), and(10, 12), or(14, 15), or(17, 16), and(8, 13), and(9, 13), and(10, 13), or(19, 20), or(22, 21),
		}, 18, 23)},
		{made(3, 2, node(1, 0, 0, 0), node(1, 2, 2, 1), node(2, 1, 0, 1)), circuitOf(4, []api.Gate{
			not(0), not(1), not(2), not(3), and(4, 5), and(0, 5), and(4, 1), and(6, 7), and(2, 7), and(6, 3),
			zero, zero, or(11, 12), and(8, 13), and(9, 14), and(10, 13), or(17, 18), or(20, 19), and(8, 16), and(9, 15), and(10, 16),
			or(22, 23), or(25, 24),
		}, 21, 26)},
	} {
		checkLower(t, x.own, x.want)
	}
}

// P18.2: all rules with a single position and two to four states, and all sets of terms for each bit of rules with more.
func TestLowerAllTerms(t *testing.T) {
	for states := 2; states <= 4; states++ {
		for _, next := range everyList(states, states) {
			checkLowered(t, made(states, 1, node(1, next...)))
		}
	}
	for states := 5; states <= 8; states++ {
		for _, terms := range everyList(2, states) {
			for s := 1; s < states; s++ {
				next := make([]int, states)
				for i, is := range terms {
					next[i] = s * is
				}
				checkLowered(t, made(states, 1, node(1, next...)))
				checkLowered(t, made(states, 2, node(1, next...), node(1, terms...), node(2, terms...)))
			}
		}
	}
}

// P18.2: trees of the simplest rules, for all numbers of states and of positions.
func TestLowerSimplest(t *testing.T) {
	for states := 2; states <= 8; states++ {
		for positions := 1; positions <= 25; positions++ {
			for s := range states {
				checkLowered(t, constant(states, positions, s))
			}
			for k := 0; k < positions; k += 1 + positions/5 {
				checkLowered(t, reading(states, positions, k))
			}
		}
	}
}

// P18.2: random trees, which are not reduced, and the reduced ones.
func TestLowerRandom(t *testing.T) {
	rng := rand.New(rand.NewSource(182))
	for range 60 {
		for states := 2; states <= 8; states++ {
			positions := 1 + rng.Intn(5)
			if rng.Intn(10) == 0 {
				positions = 1 + rng.Intn(25)
			}
			own := randomTree(rng, states, positions, positions+1+rng.Intn(60))
			checkLowered(t, own)
			checkLowered(t, reduce.Reduce(own))
		}
	}
}

// P18.2: a node that no other one leads to has gates of its own, wherever it stands, and the operands of all others move.
func TestLowerNodesThatAreNotNeeded(t *testing.T) {
	own := made(2, 2, node(1, 0, 1), node(2, 0, 0))
	want := circuitOf(2, append(slices.Clone(nots2), zero, and(2, 1), and(0, 1), or(5, 6)), 7)
	for _, nodes := range [][]api.Node{
		{node(1, 0, 0), node(1, 0, 1), node(2, 1, 1)}, {node(1, 0, 1), node(1, 0, 0), node(2, 0, 0)},
	} {
		own.Nodes = nodes
		checkLower(t, own, want)
	}
	rng := rand.New(rand.NewSource(183))
	for states := 2; states <= 8; states++ {
		reduced := reduce.Reduce(randomTree(rng, states, 3, 12))
		fewer, _ := lower.Lower(reduced)
		spare := node(1, slices.Repeat([]int{0}, states)...)
		reduced.Nodes = slices.Insert(reduced.Nodes, len(reduced.Nodes)-1, spare)
		checkLowered(t, reduced)
		if more, _ := lower.Lower(reduced); len(more.Gates) != len(fewer.Gates)+widthOf(states) {
			t.Errorf("with a node that is not needed there are %d gates, not some more than %d", len(more.Gates), len(fewer.Gates))
		}
	}
}

// P18.2: rules of notations.
func TestLowerNotations(t *testing.T) {
	for _, name := range notations {
		own, e := notation.Parse(name)
		if e != api.OK {
			t.Fatalf("the rule %s has the error %d", name, e)
		}
		checkLowered(t, own)
	}
}

// P18.2: a result is new memory, which neither the arguments nor another result share, nor its lists with each other.
func TestLowerIsNew(t *testing.T) {
	for _, own := range []api.Tree{
		reading(2, 1, 0), constant(2, 1, 0), made(4, 1, node(1, 3, 0, 0, 0)), reading(3, 2, 0), constant(8, 3, 7), reading(5, 25, 3),
	} {
		given, want := laidOut(own), lowerModel(own)
		first, _ := lower.Lower(given)
		second, _ := lower.Lower(given)
		fill(first.Gates, gate(99, 99, 99))
		if !slices.Equal(first.Outs, want.Outs) || !circuit.Same(second, want) {
			t.Errorf("a change of the gates changes the outputs to %v, or another result to %s", first.Outs, showCircuit(second))
		}
		fill(first.Outs, 98)
		fill(second.Outs, 97)
		if !slices.Equal(first.Gates, slices.Repeat([]api.Gate{gate(99, 99, 99)}, len(want.Gates))) || !slices.Equal(second.Gates, want.Gates) {
			t.Errorf("a change of the outputs changes the gates to %s or %s", showCircuit(first), showCircuit(second))
		}
		if !tree.Same(whole(given), whole(laidOut(own))) {
			t.Errorf("a change of the results changes the tree %s", show(own))
		}
		third, _ := lower.Lower(given)
		for i := range given.Nodes {
			fill(given.Nodes[i].Next, 96)
		}
		fill(given.Nodes, api.Node{})
		fill(given.Hood, api.Point{})
		if !circuit.Same(third, want) {
			t.Errorf("a change of the tree, or of an earlier result, changes the result to %s", showCircuit(third))
		}
	}
}
