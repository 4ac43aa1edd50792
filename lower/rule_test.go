package lower_test

import (
	"math/rand"
	"slices"
	"testing"

	"cellular/api"
	"cellular/circuit"
	"cellular/lower"
	"cellular/notation"
	"cellular/tree"
)

// notations are rules with two to eight states.
var notations = []string{
	"B3/S23", "B36/S23", "B/S", "B012345678/S012345678", "B2/S/C3", "B2/S345/C4", "345/2/5", "B2/S34H", "B13/S024V", "W30", "W90", "W110", "T777/3",
	"T101/4",
}

// lowered returns the circuit of a valid rule.
func lowered(t *testing.T, own api.Tree) api.Circuit {
	t.Helper()
	c, e := lower.Lower(own)
	if e != api.OK {
		t.Fatalf("Lower of the tree %s has the error %d", show(own), e)
	}
	return c
}

// checkRule checks that the circuit of a rule leads from states to the new state that the tree does.
func checkRule(t *testing.T, own api.Tree, c api.Circuit, in []int) {
	t.Helper()
	inputs, e := lower.Inputs(own, in)
	outs, f := circuit.Eval(c, inputs)
	want, g := tree.Eval(own, in)
	if e != api.OK || f != api.OK || g != api.OK || len(outs) != lower.Bits(own.States) || lower.State(outs) != want {
		t.Errorf("the circuit of %s leads from %v to %v, not to %d, with the errors %d, %d and %d", show(own), in, outs, want, e, f, g)
	}
}

// checkNumbers checks the outputs of the circuit of a rule for numbers, each of which has as many bits as a state: if one of them is not a
// state, all outputs are false.
func checkNumbers(t *testing.T, own api.Tree, c api.Circuit, numbers []int) {
	t.Helper()
	if !slices.ContainsFunc(numbers, func(n int) bool { return n >= own.States }) {
		checkRule(t, own, c, numbers)
		return
	}
	outs, e := circuit.Eval(c, inputsModel(own.States, numbers))
	if e != api.OK || !slices.Equal(outs, make([]bool, widthOf(own.States))) {
		t.Errorf("the circuit of %s leads from %v to %v with the error %d", show(own), numbers, outs, e)
	}
}

// manyTrees returns trees of simple rules and random ones.
func manyTrees(rng *rand.Rand, states, positions int) []api.Tree {
	list := []api.Tree{constant(states, positions, states-1), constant(states, positions, 0)}
	for k := 0; k < positions; k += 1 + positions/4 {
		list = append(list, reading(states, positions, k))
	}
	for range 5 {
		list = append(list, randomTree(rng, states, positions, positions+1+rng.Intn(60)))
	}
	return list
}

// P18.3: all numbers of small rules, those that are states and those that are not.
func TestSmallRules(t *testing.T) {
	rng := rand.New(rand.NewSource(184))
	for states := 2; states <= 8; states++ {
		limit := 1 << widthOf(states)
		for positions := 1; positions <= 9 && positions*widthOf(states) <= 9; positions++ {
			list := everyList(limit, positions)
			for _, own := range manyTrees(rng, states, positions) {
				c := lowered(t, own)
				for _, numbers := range list {
					checkNumbers(t, own, c, numbers)
				}
			}
		}
	}
}

// P18.3: all rules with a single position and two or three states.
func TestAllRulesOfOnePosition(t *testing.T) {
	for states := 2; states <= 3; states++ {
		for _, next := range everyList(states, states) {
			own := made(states, 1, node(1, next...))
			c := lowered(t, own)
			for n := range 1 << widthOf(states) {
				checkNumbers(t, own, c, []int{n})
			}
			for s, want := range next {
				if outs, e := circuit.Eval(c, inputsModel(states, []int{s})); e != api.OK || lower.State(outs) != want {
					t.Errorf("the circuit of %v leads from %d to %v with the error %d", next, s, outs, e)
				}
			}
		}
	}
}

// P18.3: many states of rules with all numbers of positions.
func TestGreatRules(t *testing.T) {
	rng := rand.New(rand.NewSource(185))
	for states := 2; states <= 8; states++ {
		for positions := 4; positions <= 25; positions++ {
			for _, own := range manyTrees(rng, states, positions) {
				c := lowered(t, own)
				for range 20 {
					checkRule(t, own, c, randomList(rng, states, positions))
				}
				for s := range states {
					checkRule(t, own, c, slices.Repeat([]int{s}, positions))
				}
			}
		}
	}
}

// P18.3: numbers that are not states, at each position alone, at several and at all of them.
func TestNotStates(t *testing.T) {
	rng := rand.New(rand.NewSource(186))
	for _, states := range []int{3, 5, 6, 7} {
		limit := 1 << widthOf(states)
		for _, positions := range []int{1, 2, 3, 4, 5, 7, 9, 13, 25} {
			for _, own := range manyTrees(rng, states, positions) {
				c := lowered(t, own)
				for n := states; n < limit; n++ {
					for i := range positions {
						numbers := randomList(rng, states, positions)
						numbers[i] = n
						checkNumbers(t, own, c, numbers)
						zeros := make([]int, positions)
						zeros[i] = n
						checkNumbers(t, own, c, zeros)
						// At some others too.
						numbers[rng.Intn(positions)] = states + rng.Intn(limit-states)
						numbers[rng.Intn(positions)] = limit - 1
						checkNumbers(t, own, c, numbers)
					}
					checkNumbers(t, own, c, slices.Repeat([]int{n}, positions))
				}
				for range 10 {
					checkNumbers(t, own, c, randomList(rng, limit, positions))
				}
			}
		}
	}
}

// P18.3: circuits with as many gates as are allowed, and trees with as many nodes.
func TestGreatestRules(t *testing.T) {
	rng := rand.New(rand.NewSource(187))
	list := []api.Tree{randomTree(rng, 2, 25, 4096), randomTree(rng, 2, 9, 4096), randomTree(rng, 3, 25, 1000)}
	for states := 3; states <= 8; states++ {
		list = append(list, sized(randomTree(rng, states, 2, 100), 20000), sized(randomTree(rng, states, 25, 300), 20000))
	}
	for _, own := range list {
		c := lowered(t, own)
		limit := 1 << widthOf(own.States)
		for range 30 {
			checkRule(t, own, c, randomList(rng, own.States, len(own.Hood)))
			checkNumbers(t, own, c, randomList(rng, limit, len(own.Hood)))
		}
	}
}

// P18.3: rules of notations, for all states if they are few, and for many.
func TestRulesOfNotations(t *testing.T) {
	rng := rand.New(rand.NewSource(188))
	for _, name := range notations {
		own, e := notation.Parse(name)
		if e != api.OK {
			t.Fatalf("the rule %s has the error %d", name, e)
		}
		list := [][]int{}
		if own.States == 2 {
			list = everyList(2, len(own.Hood))
		}
		for range 300 {
			list = append(list, randomList(rng, own.States, len(own.Hood)))
		}
		c := lowered(t, own)
		for _, in := range list {
			checkRule(t, own, c, in)
		}
		for range 300 {
			checkNumbers(t, own, c, randomList(rng, 1<<widthOf(own.States), len(own.Hood)))
		}
	}
}

// P18.3: the rule B3/S23, counted without a tree.
func TestLife(t *testing.T) {
	own, _ := notation.Parse("B3/S23")
	c := lowered(t, own)
	for _, in := range everyList(2, 9) {
		inputs, cells := make([]bool, 9), 0
		for i, s := range in {
			inputs[i] = s == 1
			cells += s
		}
		// Three cells of the nine, or four of them and the centre.
		want := cells == 3 || cells == 4 && inputs[4]
		if outs, e := circuit.Eval(c, inputs); e != api.OK || !slices.Equal(outs, []bool{want}) {
			t.Errorf("the circuit of B3/S23 leads from %v to %v with the error %d", in, outs, e)
		}
	}
}
