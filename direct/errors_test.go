package direct_test

import (
	"math"
	"slices"
	"testing"

	"cellular/api"
	"cellular/hood"
	"cellular/pattern"
	"cellular/tree"
)

// wrongStates are trees whose number of states is not one of a rule. In the first ones all other conditions hold.
func wrongStates() []api.Tree {
	l := []api.Tree{dying(1, drawn(left)).Tree, dying(9, drawn(left)).Tree, dying(0, drawn(left)).Tree}
	for _, states := range ints {
		if states < 2 || states > 8 {
			own := dying(2, drawn(left)).Tree
			own.States = states
			l = append(l, own)
		}
	}
	return l
}

// wrongHoods are trees whose neighbourhoods are not valid. They have nodes for as many levels as there are offsets.
func wrongHoods() []api.Tree {
	lists := [][]api.Point{
		// Not in order, by X and by Y, and an offset twice.
		{{X: 1}, {}}, {{Y: 1}, {}}, {{X: -1, Y: 1}, {X: 1}}, {{}, {}}, {{X: -1}, {}, {}, {X: 1}}, {{X: -1}, {}, {X: -1}},
		// Beyond the greatest radius.
		{{X: -3}}, {{X: 3}}, {{Y: -3}}, {{Y: 3}}, {{X: -3}, {}}, {{}, {X: 3}}, {{Y: -3}, {}}, {{}, {Y: 3}}, {{X: math.MinInt}, {}},
		{{}, {X: math.MaxInt}}, {{Y: math.MinInt}, {}}, {{}, {Y: math.MaxInt}}, {{X: 1 << 32}}, {{X: 256}},
		// More than the greatest number of offsets.
		append(hood.Moore(2), api.Point{X: 2, Y: 2}), append(hood.Moore(2), api.Point{Y: 3}), slices.Repeat(hood.Moore(2), 2),
	}
	var trees []api.Tree
	for _, l := range lists {
		trees = append(trees, dying(2, l).Tree, reading(3, l, 0).Tree)
	}
	return append(trees, api.Tree{States: 2, Nodes: []api.Node{node(1, 0, 0)}}, api.Tree{States: 2, Nodes: []api.Node{node(0, 0, 0)}},
		api.Tree{States: 2, Hood: []api.Point{}, Nodes: []api.Node{node(1, 0, 1)}})
}

// wrongNodes are trees whose neighbourhood (-1, 0), (0, 0) is right, and whose nodes are not.
func wrongNodes() []api.Tree {
	zero, one := node(1, 0, 0), node(1, 0, 1)
	lists := [][]api.Node{
		nil, {},
		// Numbers of elements.
		{node(1, 0), node(2, 0, 0)}, {node(1, 0, 0, 0), node(2, 0, 0)}, {node(1), node(2, 0, 0)}, {zero, node(2, 0)}, {zero, node(2, 0, 0, 0)},
		{zero, node(2)}, {zero, node(1, 0), node(2, 0, 0)},
		// New states.
		{node(1, 0, 2), node(2, 0, 0)}, {node(1, 0, -1), node(2, 0, 0)}, {node(1, 0, math.MinInt), node(2, 0, 0)},
		{node(1, 0, math.MaxInt), node(2, 0, 0)}, {zero, node(1, 0, 2), node(2, 0, 0)}, {zero, node(1, 2, 0), node(2, 0, 1)},
		// Indices of nodes.
		{zero, node(2, 0, 1)}, {zero, node(2, 0, 2)}, {zero, node(2, 0, -1)}, {zero, node(2, 0, math.MinInt)}, {zero, node(2, 0, math.MaxInt)},
		{zero, one, node(2, 0, 2)}, {node(2, 1, 1), zero, node(2, 1, 1)}, {zero, node(2, 0, 0), node(2, 0, 1)}, {zero, node(2, 0, 0), node(2, 1, 1)},
		// Levels.
		{zero}, {zero, one}, {zero, node(2, 0, 0), zero}, {zero, node(3, 0, 0)}, {zero, node(0, 0, 0)}, {zero, node(-1, 0, 0)}, {node(2, 0, 0)},
		{node(0, 0, 0), node(2, 0, 0)}, {node(0, 0, 0), zero, node(2, 1, 1)}, {zero, node(2, 0, 0), node(3, 1, 1)}, {zero, node(3, 0, 0), node(2, 0, 0)},
		{zero, node(math.MaxInt, 0, 0), node(2, 0, 0)}, {zero, node(math.MinInt, 0, 0), node(2, 0, 0)}, {zero, node(1<<32+2, 0, 0)},
		// Numbers of nodes.
		append(slices.Repeat([]api.Node{zero}, 4096), node(2, 0, 0)), append(slices.Repeat([]api.Node{zero}, 4097), node(2, 0, 0)),
	}
	var trees []api.Tree
	for _, l := range lists {
		trees = append(trees, api.Tree{States: 2, Hood: drawn(left), Nodes: l})
	}
	return trees
}

// loudRules are valid trees that lead from zeros to another state.
func loudRules(t *testing.T) []api.Tree {
	l := []api.Tree{parsed(t, "B0/S").Tree, parsed(t, "B0/S012345678").Tree, parsed(t, "B0/S/C8").Tree, parsed(t, "W1").Tree, parsed(t, "T1/2").Tree}
	for states := 2; states <= api.MaxStates; states++ {
		for s := 1; s < states; s++ {
			for _, offsets := range [][]api.Point{hood.Moore(0), hood.Moore(2), drawn(far)} {
				own, e := tree.Constant(states, offsets, s)
				if e != api.OK {
					t.Fatalf("Constant returns the error %d", e)
				}
				l = append(l, own)
			}
		}
	}
	// Only the zeros lead to another state.
	l = append(l, machine{0, func(memory, position, state int) int { return max(memory, state) }, func(memory int) int { return max(0, 1-memory) }}.
		rule(3, hood.Moore(1)).Tree)
	// The node for zeros is not the first one.
	return append(l, api.Tree{States: 2, Hood: drawn(left), Nodes: []api.Node{node(1, 0, 0), node(1, 1, 0), node(2, 0, 0), node(2, 1, 0)}})
}

// wrongRules are all trees that are not those of a quiet rule.
func wrongRules(t *testing.T) []api.Tree {
	t.Helper()
	invalid := slices.Concat(wrongStates(), wrongHoods(), wrongNodes(), []api.Tree{{}})
	for _, own := range invalid {
		if tree.Right(own) {
			t.Errorf("%s is valid", show(own))
		}
	}
	loud := loudRules(t)
	for _, own := range loud {
		if !tree.Right(own) || tree.Quiet(own) {
			t.Errorf("%s is not valid, or quiet", show(own))
		}
	}
	return append(invalid, loud...)
}

// wrongPatterns are lists that are not valid patterns, each for one reason. Their states are less than 2 where they can be.
func wrongPatterns(t *testing.T) []api.Pattern {
	t.Helper()
	l := []api.Pattern{
		// Not in order, by X and by Y, and a position twice.
		{{X: 1, S: 1}, {S: 1}}, {{Y: 1, S: 1}, {S: 1}}, {{X: -1, Y: 1, S: 1}, {X: 1, S: 1}}, {{S: 1}, {S: 1}}, {{S: 1}, {X: 1, S: 1}, {S: 1}},
		{{S: 1}, {X: 2, S: 1}, {X: 1, S: 1}}, {{X: -9, S: 1}, {S: 1}, {S: 1}, {X: 9, S: 1}},
		// States.
		{{}}, {{S: 1}, {X: 1}}, {{}, {X: 1, S: 1}}, {{S: -1}}, {{S: math.MinInt}}, {{S: 8}}, {{S: math.MaxInt}}, {{S: 1}, {X: 1, S: 8}}, {{S: 256}},
		{{S: 1<<32 + 1}},
		// Numbers of cells.
		onesOf(full + 1), block(0, 0, 50, 101, 2), lattice(0, 0, 100000, 1000, 3, 2),
	}
	for _, c := range ints {
		if c < -most || c > most {
			l = append(l, api.Pattern{{X: c, S: 1}}, api.Pattern{{Y: c, S: 1}}, api.Pattern{{X: c, Y: c, S: 1}})
		}
		if c > most {
			l = append(l, api.Pattern{{S: 1}, {X: c, S: 1}}, api.Pattern{{S: 1}, {Y: c, S: 1}})
		}
	}
	for _, p := range l {
		if pattern.Right(p) {
			t.Errorf("%v is valid", short(p))
		}
	}
	return l
}

// checkAll checks that all functions return an error, whatever the number is: a coordinate or a number of generations, right or not.
func checkAll(t *testing.T, own api.Tree, p api.Pattern, want api.Errno) {
	t.Helper()
	for _, f := range calls {
		for _, n := range []int{0, 1, 10000, 10001, -1, most, most + 1, -most - 1, math.MinInt, math.MaxInt} {
			f.checkError(t, own, p, n, want)
		}
	}
}

// P20.1 to P20.4: rules that are not valid or not quiet come first, whatever else would be wrong.
func TestErrRule(t *testing.T) {
	for _, own := range wrongRules(t) {
		for _, p := range []api.Pattern{
			nil, {}, {{S: 1}}, ones(0, 0, glider), {{S: 7}}, {{S: 0}}, {{X: 1, S: 7}, {S: 1}}, {{X: most + 1, S: 1}}, ones(0, most, "ooo"),
		} {
			checkAll(t, own, p, api.ErrRule)
		}
	}
	for _, p := range wrongPatterns(t) {
		checkAll(t, api.Tree{}, p, api.ErrRule)
		checkAll(t, parsed(t, "B0/S").Tree, p, api.ErrRule)
	}
}

// P20.1 to P20.4: rules that are valid and quiet have no error, though a node that is not needed leads to other states.
func TestQuietRules(t *testing.T) {
	for _, own := range []api.Tree{
		{States: 2, Hood: drawn(left), Nodes: []api.Node{node(1, 1, 1), node(1, 0, 1), node(2, 0, 0), node(2, 1, 0)}},
		{States: 2, Hood: drawn(left), Nodes: []api.Node{node(1, 0, 1), node(1, 1, 1), node(2, 0, 0), node(2, 0, 1)}},
	} {
		checkRun(t, rule{Tree: own}, nil, 3, make([]api.Pattern, 4), api.OK)
		checkNext(t, rule{Tree: own}, nil, 0, 0, 0, api.OK)
	}
}

// P20.1 to P20.4: patterns that are not valid come next, whatever the states and the other arguments are.
func TestErrArg(t *testing.T) {
	for _, p := range wrongPatterns(t) {
		for _, own := range []rule{life(), greatest(2, hood.Moore(2)), dying(8, drawn(far)), copying(5, 1, 0)} {
			checkAll(t, own.Tree, p, api.ErrArg)
		}
	}
	// States that the rule does not have, before and behind what is wrong.
	for _, p := range []api.Pattern{
		{{X: 1, S: 7}, {S: 1}}, {{X: 1, S: 1}, {S: 7}}, {{S: 7}, {S: 7}}, {{X: -1, S: 7}, {X: most + 1, S: 1}}, {{X: -most - 1, S: 1}, {S: 7}},
		{{S: 7}, {X: 1}}, {{}, {X: 1, S: 7}}, {{S: 7}, {X: 1, S: 8}}, {{S: -1}, {X: 1, S: 7}}, lattice(0, 0, full+1, 100, 1, 8),
	} {
		checkAll(t, life().Tree, p, api.ErrArg)
	}
}

// P20.1 to P20.4: states that the rule does not have come next.
func TestErrState(t *testing.T) {
	for states := 2; states <= api.MaxStates; states++ {
		for _, own := range []rule{greatest(states, hood.Moore(1)), dying(states, drawn(last)), copying(states, 0, -2), dying(states, hood.Moore(2))} {
			for s := 1; s < api.MaxStates; s++ {
				for _, p := range []api.Pattern{
					{{S: s}}, {{X: -1, S: 1}, {S: s}, {X: 1, S: 1}}, {{X: 1, S: 1}, {Y: 1, S: s}}, {{S: s}, {X: 9, S: 1}}, {{X: most, Y: -most, S: s}},
					append(onesOf(full-1), api.Cell{Y: 1, S: s}),
				} {
					if s >= states {
						checkAll(t, own.Tree, p, api.ErrState)
						continue
					}
					for _, f := range calls[2:] {
						f.checkError(t, own.Tree, p, -1, api.ErrArg)
					}
					calls[0].checkError(t, own.Tree, p, most+1, api.ErrRange)
				}
			}
		}
	}
}

// P20.3, P20.4: a wrong number of generations comes before the error of a Step.
func TestNumberBeforeStep(t *testing.T) {
	many := lattice(0, 0, full, 70, 5, 2)
	for _, n := range []int{-1, 10001, math.MinInt, math.MaxInt} {
		for _, f := range calls[2:] {
			f.checkError(t, life().Tree, ones(0, most, "ooo"), n, api.ErrArg)
			f.checkError(t, greatest(2, hood.Moore(1)).Tree, many, n, api.ErrArg)
		}
	}
	for _, f := range calls[1:] {
		for _, n := range []int{1, 2, 10000} {
			f.checkError(t, life().Tree, ones(0, most, "ooo"), n, api.ErrRange)
			f.checkError(t, greatest(2, hood.Moore(1)).Tree, many, n, api.ErrSize)
		}
	}
}
