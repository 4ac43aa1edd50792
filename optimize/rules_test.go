package optimize_test

import (
	"math/rand"
	"slices"
	"testing"

	"cellular/api"
	"cellular/circuit"
	"cellular/hood"
	"cellular/lower"
	"cellular/notation"
	"cellular/optimize"
	"cellular/tree"
)

// notations are rules with two to eight states.
var notations = []string{
	"B3/S23", "B36/S23", "B/S", "B012345678/S012345678", "B2/S/C3", "B2/S345/C4", "345/2/5", "B2/S/C6", "345/2/7", "B2/S/C8", "B2/S34H",
	"B13/S024V", "W30", "W90", "W110", "T777/3", "T101/4",
}

// optimized returns the circuit of a rule, and the results of all functions for it.
func optimized(t *testing.T, own api.Tree) (api.Circuit, []api.Circuit) {
	t.Helper()
	c, e := lower.Lower(own)
	if e != api.OK {
		t.Fatalf("Lower of a tree with %d states and %d nodes has the error %d", own.States, len(own.Nodes), e)
	}
	var results []api.Circuit
	for _, f := range calls {
		results = append(results, checkShape(t, f, c))
	}
	return c, results
}

// checkNewState checks that circuits lead from states to the new state that the tree does.
func checkNewState(t *testing.T, own api.Tree, results []api.Circuit, in []int) {
	t.Helper()
	inputs, e := lower.Inputs(own, in)
	want, f := tree.Eval(own, in)
	for i, c := range results {
		outs, g := circuit.Eval(c, inputs)
		if e != api.OK || f != api.OK || g != api.OK || len(outs) != lower.Bits(own.States) || lower.State(outs) != want {
			t.Errorf("after %s the circuit of a rule leads from %v to %v, not to %d, with the errors %d, %d and %d", calls[i].name, in, outs, want, e, f, g)
		}
	}
}

// checkInput checks that circuits made from another one have the same outputs, whether the inputs are those of states or not.
func checkInput(t *testing.T, c api.Circuit, results []api.Circuit, in []bool) {
	t.Helper()
	for _, got := range results {
		checkEval(t, c, got, in)
	}
}

// randomRule returns a random tree for a number of states and the first positions within the greatest radius. There may be equal nodes, others
// that are not needed, and nodes of all levels in any order.
func randomRule(rng *rand.Rand, states, positions, nodes int) api.Tree {
	own, may := api.Tree{States: states, Hood: hood.Moore(2)[:positions]}, make([][]int, positions+1)
	may[0] = upTo(states)
	add := func(level int) {
		var next []int
		for range states {
			next = append(next, may[level-1][rng.Intn(len(may[level-1]))])
		}
		may[level] = append(may[level], len(own.Nodes))
		own.Nodes = append(own.Nodes, api.Node{Level: level, Next: next})
	}
	for level := range positions {
		add(level + 1)
	}
	for len(own.Nodes) < nodes-1 {
		add(1 + rng.Intn(positions))
	}
	add(positions)
	return own
}

// simpleRules returns the constants and the rules that read a position.
func simpleRules(states, positions int) []api.Tree {
	var l []api.Tree
	for s := range states {
		own, _ := tree.Constant(states, hood.Moore(2)[:positions], s)
		l = append(l, own)
	}
	for k := range positions {
		own, _ := tree.Read(states, hood.Moore(2)[:positions], k)
		l = append(l, own)
	}
	return l
}

// everyList returns all lists of n numbers that are less than a limit.
func everyList(limit, n int) [][]int {
	lists := [][]int{{}}
	for range n {
		var longer [][]int
		for _, l := range lists {
			for s := range limit {
				longer = append(longer, append(slices.Clone(l), s))
			}
		}
		lists = longer
	}
	return lists
}

// randomList returns n numbers that are less than a limit.
func randomList(rng *rand.Rand, limit, n int) []int {
	l := make([]int, n)
	for i := range l {
		l[i] = rng.Intn(limit)
	}
	return l
}

// P19.8: small rules with two to eight states, for all states and for all inputs.
func TestSmallRules(t *testing.T) {
	rng := rand.New(rand.NewSource(1916))
	for states := 2; states <= 8; states++ {
		bits := lower.Bits(states)
		for positions := 1; positions*bits <= 6; positions++ {
			lists, inputs := everyList(states, positions), everyInput(positions*bits)
			rules := simpleRules(states, positions)
			for range 10 {
				rules = append(rules, randomRule(rng, states, positions, positions+1+rng.Intn(40)))
			}
			for _, own := range rules {
				c, results := optimized(t, own)
				for _, in := range lists {
					checkNewState(t, own, results, in)
				}
				for _, in := range inputs {
					checkInput(t, c, results, in)
				}
			}
		}
	}
}

// P19.8: rules with two to eight states and all numbers of positions, for many states.
func TestGreatRules(t *testing.T) {
	rng := rand.New(rand.NewSource(1917))
	for states := 2; states <= 8; states++ {
		for positions := 1; positions <= 25; positions++ {
			rules := simpleRules(states, positions)
			rules = append(rules[:states:states], rules[states+rng.Intn(positions)])
			for range 3 {
				rules = append(rules, randomRule(rng, states, positions, positions+1+rng.Intn(100)))
			}
			for _, own := range rules {
				c, results := optimized(t, own)
				for range 20 {
					checkNewState(t, own, results, randomList(rng, states, positions))
					checkInput(t, c, results, randomInput(rng, c.Inputs))
				}
				for s := range states {
					checkNewState(t, own, results, slices.Repeat([]int{s}, positions))
				}
			}
		}
	}
}

// P19.8: rules of notations, for all states if they are few, and for many.
func TestRulesOfNotations(t *testing.T) {
	rng := rand.New(rand.NewSource(1918))
	for _, name := range notations {
		own, e := notation.Parse(name)
		if e != api.OK {
			t.Fatalf("the rule %s has the error %d", name, e)
		}
		c, results := optimized(t, own)
		var lists [][]int
		if own.States == 2 {
			lists = everyList(2, len(own.Hood))
		}
		for range 300 {
			lists = append(lists, randomList(rng, own.States, len(own.Hood)))
		}
		for _, in := range lists {
			checkNewState(t, own, results, in)
		}
		for range 100 {
			checkInput(t, c, results, randomInput(rng, c.Inputs))
		}
		if got := results[3]; len(got.Gates) > len(c.Gates) || len(faults(got)) > 0 {
			t.Errorf("the circuit of %s has %d gates, and then %d with the faults %v", name, len(c.Gates), len(got.Gates), faults(got))
		}
	}
}

// P19.8: rules whose optimized circuits are known.
func TestKnownRules(t *testing.T) {
	for states := 2; states <= 8; states++ {
		bits := lower.Bits(states)
		for positions := 1; positions <= 3; positions++ {
			// The constant 0.
			own, _ := tree.Constant(states, hood.Moore(2)[:positions], 0)
			_, results := optimized(t, own)
			want := made(positions*bits, list(zero), slices.Repeat([]int{positions * bits}, bits)...)
			if !circuit.Same(results[3], want) {
				t.Errorf("All of the constant 0 leads to %s", show(results[3]))
			}
		}
	}
	// A rule with a single position and two states: the state 1, the state itself, and the opposite one.
	for _, x := range []struct {
		next []int
		want api.Circuit
	}{
		{[]int{0, 0}, made(1, list(zero), 1)}, {[]int{0, 1}, made(1, nil, 0)},
		{[]int{1, 0}, made(1, list(not(0)), 1)}, {[]int{1, 1}, made(1, list(one), 1)},
	} {
		own := api.Tree{States: 2, Hood: []api.Point{{}}, Nodes: []api.Node{{Level: 1, Next: x.next}}}
		c, _ := lower.Lower(own)
		if got := optimize.All(c); !circuit.Same(got, x.want) {
			t.Errorf("All of the circuit of %v leads to %s", x.next, show(got))
		}
	}
}

// wideRule returns a random tree for a number of states and of positions whose circuit has thousands of gates, most of which are needed.
func wideRule(rng *rand.Rand, states, positions int) api.Tree {
	own, before := api.Tree{States: states, Hood: hood.Moore(2)[:positions]}, upTo(states)
	add := func(level int) int {
		var next []int
		for range states {
			next = append(next, before[rng.Intn(len(before))])
		}
		own.Nodes = append(own.Nodes, api.Node{Level: level, Next: next})
		return len(own.Nodes) - 1
	}
	nodes := min(4000, 18000/lower.Bits(states)/(2*states-1))
	for level := 1; level < positions; level++ {
		var now []int
		for range nodes / (positions - 1) {
			now = append(now, add(level))
		}
		before = now
	}
	add(positions)
	return own
}

// P19.8: rules whose circuits have thousands of gates, before and after the optimization.
func TestGreatestRules(t *testing.T) {
	rng := rand.New(rand.NewSource(1919))
	for states := 2; states <= 8; states++ {
		for _, positions := range []int{14, 25} {
			own := wideRule(rng, states, positions)
			c, results := optimized(t, own)
			if len(c.Gates) < 10000 || len(results[3].Gates) < 1500 {
				t.Errorf("for %d states and %d positions there are %d gates, and then %d", states, positions, len(c.Gates), len(results[3].Gates))
			}
			for range 50 {
				checkNewState(t, own, results, randomList(rng, own.States, len(own.Hood)))
				checkInput(t, c, results, randomInput(rng, c.Inputs))
			}
		}
	}
}
