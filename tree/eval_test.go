package tree_test

import (
	"math/rand"
	"slices"
	"testing"

	"cellular/api"
	"cellular/tree"
)

// checkEval compares Eval with the expected result.
func checkEval(t *testing.T, own api.Tree, in []int, want int, wanted api.Errno) {
	t.Helper()
	unchanged(t, own, in, func(own api.Tree, in []int) {
		if s, e := tree.Eval(own, in); s != want || e != wanted {
			t.Errorf("Eval of %s for %v is %d with the error %d, not %d with %d", show(own), in[:min(len(in), 30)], s, e, want, wanted)
		}
	})
}

// checkValues compares Eval with the new states for all states, and Quiet with the first one.
func checkValues(t *testing.T, own api.Tree, want []int) {
	t.Helper()
	for i, in := range everyState(own.States, len(own.Hood)) {
		if s, e := tree.Eval(own, in); s != want[i] || e != api.OK {
			t.Fatalf("Eval of %s for %v is %d with the error %d, not %d", show(own), in, s, e, want[i])
		}
	}
	if tree.Quiet(own) != (want[0] == 0) {
		t.Errorf("Quiet of %s is %v", show(own), want[0] != 0)
	}
}

// P12.2, P12.3: trees that are written down, with nodes that are not needed, equal, or reached on several ways.
func TestEvalExamples(t *testing.T) {
	for _, c := range []struct {
		states  int
		drawing string
		nodes   []api.Node
		want    []int
	}{
		{2, single, []api.Node{node(1, 0, 1)}, []int{0, 1}},
		{2, single, []api.Node{node(1, 1, 0)}, []int{1, 0}},
		{2, beside, []api.Node{node(1, 0, 0)}, []int{0, 0}},
		{2, beside, []api.Node{node(1, 1, 1)}, []int{1, 1}},
		{2, single, []api.Node{node(1, 1, 0), node(1, 0, 1)}, []int{0, 1}},
		{2, single, []api.Node{node(1, 0, 1), node(1, 0, 1), node(1, 1, 0)}, []int{1, 0}},
		{8, single, []api.Node{node(1, 3, 1, 4, 1, 5, 0, 2, 6)}, []int{3, 1, 4, 1, 5, 0, 2, 6}},
		{8, single, []api.Node{node(1, 0, 7, 6, 5, 4, 3, 2, 1)}, []int{0, 7, 6, 5, 4, 3, 2, 1}},
		// The examples of the chapter, and of the one on reduced trees.
		{2, left, []api.Node{node(1, 0, 0), node(1, 1, 1), node(2, 0, 1)}, []int{0, 0, 1, 1}},
		{2, left, []api.Node{node(1, 0, 1), node(2, 0, 0)}, []int{0, 1, 0, 1}},
		{2, left, []api.Node{node(1, 0, 1), node(1, 0, 1), node(2, 0, 1)}, []int{0, 1, 0, 1}},
		{2, left, []api.Node{node(1, 1, 1), node(2, 0, 0)}, []int{1, 1, 1, 1}},
		// Each function of two cells that a tree can tell by its order alone.
		{2, left, []api.Node{node(1, 0, 1), node(1, 1, 0), node(2, 0, 1)}, []int{0, 1, 1, 0}},
		{2, left, []api.Node{node(1, 0, 1), node(1, 1, 0), node(2, 1, 0)}, []int{1, 0, 0, 1}},
		{2, left, []api.Node{node(1, 0, 0), node(1, 0, 1), node(2, 0, 1)}, []int{0, 0, 0, 1}},
		{2, left, []api.Node{node(1, 0, 0), node(1, 0, 1), node(2, 1, 0)}, []int{0, 1, 0, 0}},
		{2, left, []api.Node{node(1, 1, 1), node(1, 1, 0), node(2, 1, 0)}, []int{1, 0, 1, 1}},
		// Nodes of each level that are not needed, in between.
		{2, left, []api.Node{node(1, 1, 1), node(2, 0, 0), node(1, 0, 1), node(1, 1, 0), node(2, 2, 2), node(2, 3, 2)}, []int{1, 0, 0, 1}},
		{3, left, []api.Node{node(1, 2, 0, 1), node(1, 0, 0, 0), node(1, 1, 2, 2), node(2, 0, 0, 0), node(2, 2, 1, 0)},
			[]int{1, 2, 2, 0, 0, 0, 2, 0, 1}},
		// A node that is reached on several ways: the number of ones, modulo two.
		{2, line, []api.Node{node(1, 0, 1), node(1, 1, 0), node(2, 0, 1), node(2, 1, 0), node(3, 2, 3)}, []int{0, 1, 1, 0, 1, 0, 0, 1}},
		{2, line, []api.Node{node(1, 0, 1), node(2, 0, 0), node(1, 0, 0), node(2, 2, 0), node(3, 1, 3)}, []int{0, 1, 0, 1, 0, 0, 0, 1}},
	} {
		own := api.Tree{States: c.states, Hood: drawn(c.drawing), Nodes: c.nodes}
		if !slices.Equal(newStates(own), c.want) {
			t.Errorf("the model has %v for %s", newStates(own), show(own))
		}
		checkValues(t, own, c.want)
		for i, in := range everyState(c.states, len(own.Hood)) {
			checkEval(t, own, in, c.want[i], api.OK)
		}
	}
}

// P12.2: all functions of the states of two cells with two states and of one with three, as trees in which all nodes are different.
func TestEvalOfEveryFunction(t *testing.T) {
	for n := range 16 {
		want := []int{n & 1, n >> 1 & 1, n >> 2 & 1, n >> 3}
		checkValues(t, api.Tree{States: 2, Hood: drawn(left), Nodes: []api.Node{node(1, want[:2]...), node(1, want[2:]...), node(2, 0, 1)}}, want)
	}
	for _, want := range everyState(3, 3) {
		checkValues(t, api.Tree{States: 3, Hood: drawn(beside), Nodes: []api.Node{node(1, want...)}}, want)
	}
}

// P12.2, P12.3: random trees and reduced trees of random rules, for all states of small neighbourhoods.
func TestEvalOfSmallHoods(t *testing.T) {
	rng := rand.New(rand.NewSource(221))
	for _, drawing := range small {
		l := drawn(drawing)
		for states := 2; states <= api.MaxStates; states++ {
			if len(everyState(states, len(l))) > 1100 {
				continue
			}
			for range 10 {
				own := randomTree(rng, states, l, rng.Intn(60))
				checkValues(t, own, newStates(own))
				r := randomRule(rng, states, len(l))
				own = r.tree(states, l)
				var want []int
				for _, in := range everyState(states, len(l)) {
					want = append(want, r.value(in))
				}
				checkValues(t, own, want)
				checkValues(t, reordered(rng, own), want)
			}
		}
	}
}

// P12.2: neighbourhoods of up to MaxHood offsets, and trees with up to MaxTree nodes.
func TestEvalOfLargeHoods(t *testing.T) {
	rng := rand.New(rand.NewSource(222))
	for _, drawing := range large {
		l := drawn(drawing)
		for states := 2; states <= api.MaxStates; states++ {
			rules := []rule{summing(states), reading(0), reading(len(l) - 1), randomRule(rng, states, len(l))}
			for _, r := range rules {
				own := r.tree(states, l)
				other := reordered(rng, own)
				for _, in := range someStates(rng, states, len(l)) {
					checkEval(t, own, in, r.value(in), api.OK)
					checkEval(t, other, in, r.value(in), api.OK)
				}
			}
		}
	}
	own := largestTree(rng)
	for i, in := range someStates(rng, 8, 25) {
		if want, wanted := evalModel(own, in); i%10 == 0 {
			checkEval(t, own, in, want, wanted)
		}
	}
	checkEval(t, inserted(own, 0, node(1, 0, 0, 0, 0, 0, 0, 0, 0)), make([]int, 25), 0, api.ErrRule)
}

// P12.2: the first state belongs to the first position, and so on.
func TestEvalOrder(t *testing.T) {
	for _, drawing := range append(slices.Clone(small), large...) {
		l := drawn(drawing)
		for k := range l {
			own := reading(k).tree(8, l)
			for s := range 8 {
				in := slices.Repeat([]int{(s + 1) % 8}, len(l))
				in[k] = s
				checkEval(t, own, in, s, api.OK)
			}
		}
	}
}

// P12.2: too few states and too many, which are states of the rule or not.
func TestEvalLengths(t *testing.T) {
	for _, drawing := range append(slices.Clone(small), large...) {
		l := drawn(drawing)
		for _, own := range []api.Tree{always(1).tree(2, l), reading(len(l)-1).tree(3, l), summing(8).tree(8, l)} {
			for n := range 30 {
				zeros, ones, wrong := make([]int, n), slices.Repeat([]int{1}, n), slices.Repeat([]int{9}, n)
				if n == len(l) {
					checkEval(t, own, ones, followed(own, own.Nodes[len(own.Nodes)-1], ones), api.OK)
					checkEval(t, own, wrong, 0, api.ErrState)
					continue
				}
				checkEval(t, own, zeros, 0, api.ErrArg)
				checkEval(t, own, ones, 0, api.ErrArg)
				checkEval(t, own, wrong, 0, api.ErrArg)
			}
			checkEval(t, own, nil, 0, api.ErrArg)
			checkEval(t, own, make([]int, 256+len(l)), 0, api.ErrArg)
			checkEval(t, own, make([]int, 1<<16+len(l)), 0, api.ErrArg)
		}
	}
}

// P12.2: numbers that are not states, at each place.
func TestEvalStates(t *testing.T) {
	for _, drawing := range []string{single, left, neumann, square} {
		l := drawn(drawing)
		for states := 2; states <= api.MaxStates; states++ {
			own := summing(states).tree(states, l)
			for _, n := range append([]int{states - 1, states, states + 1}, ints...) {
				for i := range l {
					in := slices.Repeat([]int{states - 1}, len(l))
					in[i] = n
					want, wanted := evalModel(own, in)
					if n >= 0 && n < states != (wanted == api.OK) {
						t.Fatalf("the model has the error %d for %v", wanted, in)
					}
					checkEval(t, own, in, want, wanted)
				}
			}
		}
	}
}

// P12.2: with two and three faults the tree comes first, then the number of states, and then the states.
func TestEvalErrorOrder(t *testing.T) {
	for _, drawing := range append(slices.Clone(small), large...) {
		l := drawn(drawing)
		right := always(1).tree(2, l)
		wrong := laidOut(right)
		wrong.Nodes[len(l)-1].Next[1] = len(l) + 1
		missing := right
		missing.Nodes = nil
		fits, misfits, long := make([]int, len(l)), slices.Repeat([]int{2}, len(l)), slices.Repeat([]int{-1}, len(l)+1)
		for _, c := range []struct {
			own  api.Tree
			in   []int
			want api.Errno
		}{
			{right, misfits, api.ErrState}, {right, fits[1:], api.ErrArg}, {right, long, api.ErrArg}, {right, long[2:], api.ErrArg},
			{wrong, fits, api.ErrRule}, {wrong, misfits, api.ErrRule}, {wrong, fits[1:], api.ErrRule}, {wrong, long, api.ErrRule},
			{wrong, nil, api.ErrRule}, {missing, misfits, api.ErrRule}, {missing, long, api.ErrRule}, {missing, nil, api.ErrRule},
			{api.Tree{}, nil, api.ErrRule}, {api.Tree{}, []int{}, api.ErrRule}, {api.Tree{}, fits, api.ErrRule}, {api.Tree{}, long, api.ErrRule},
		} {
			checkEval(t, c.own, c.in, 0, c.want)
		}
	}
}

// P12.2: random trees and states, with faults of any kind.
func TestEvalRandom(t *testing.T) {
	rng := rand.New(rand.NewSource(223))
	counts := map[api.Errno]int{}
	for range 5000 {
		l := drawn(small[rng.Intn(len(small))])
		own := randomTree(rng, 2+rng.Intn(3), l, rng.Intn(20))
		if rng.Intn(3) == 0 {
			own = broken(rng, own)
		}
		in := make([]int, max(0, len(l)+rng.Intn(5)/4-rng.Intn(5)/4))
		for i := range in {
			if in[i] = rng.Intn(2); rng.Intn(20) == 0 {
				in[i] = ints[rng.Intn(len(ints))]
			}
		}
		want, wanted := evalModel(own, in)
		checkEval(t, own, in, want, wanted)
		counts[wanted]++
	}
	if len(counts) != 4 {
		t.Error("the numbers of the errors are", counts)
	}
}

// checkQuiet compares Quiet with the expected result.
func checkQuiet(t *testing.T, own api.Tree, want bool) {
	t.Helper()
	if quietModel(own) != want {
		t.Errorf("the model tells %v of %s", !want, show(own))
	}
	unchanged(t, own, nil, func(own api.Tree, _ []int) {
		if got := tree.Quiet(own); got != want {
			t.Errorf("Quiet of %s is %v", show(own), got)
		}
	})
}

// P12.3: trees that lead from zeros to each state. All other states lead to another one.
func TestQuiet(t *testing.T) {
	for _, drawing := range append(slices.Clone(small), large...) {
		l := drawn(drawing)
		for states := 2; states <= api.MaxStates; states++ {
			for s := range states {
				checkQuiet(t, always(s).tree(states, l), s == 0)
				turned := rule{s, func(memory, position, state int) int {
					if state == 0 {
						return memory
					}
					return (s + 1) % states
				}}
				checkQuiet(t, turned.tree(states, l), s == 0)
			}
			for k := range l {
				checkQuiet(t, reading(k).tree(states, l), true)
			}
			checkQuiet(t, summing(states).tree(states, l), true)
		}
	}
}

// P12.3: a node that is not needed does not matter.
func TestQuietSpareNodes(t *testing.T) {
	checkQuiet(t, api.Tree{States: 2, Hood: drawn(single), Nodes: []api.Node{node(1, 0, 0), node(1, 1, 0)}}, false)
	checkQuiet(t, api.Tree{States: 2, Hood: drawn(single), Nodes: []api.Node{node(1, 1, 1), node(1, 0, 1)}}, true)
	checkQuiet(t, api.Tree{States: 2, Hood: drawn(left), Nodes: []api.Node{node(1, 0, 0), node(1, 1, 0), node(2, 0, 0), node(2, 1, 0)}}, false)
	checkQuiet(t, api.Tree{States: 2, Hood: drawn(left), Nodes: []api.Node{node(1, 1, 0), node(1, 0, 1), node(2, 0, 0), node(2, 1, 0)}}, true)
}

// P12.3: trees that are not valid, though they lead from zeros to 0 as far as it can be told.
func TestQuietInvalid(t *testing.T) {
	l := drawn(left)
	for _, own := range []api.Tree{
		{}, {States: 2}, {States: 2, Hood: l}, {Hood: l, Nodes: []api.Node{node(1, 0, 0), node(2, 0, 0)}},
		{States: 1, Hood: l, Nodes: []api.Node{node(1, 0), node(2, 0)}},
		{States: 2, Nodes: []api.Node{node(1, 0, 0)}},
		{States: 2, Nodes: []api.Node{node(1, 0, 0), node(2, 0, 0)}},
		{States: 2, Hood: l[:1], Nodes: []api.Node{node(1, 0, 2)}},
		{States: 2, Hood: l[:1], Nodes: []api.Node{node(1, 0)}},
		{States: 2, Hood: l[:1], Nodes: []api.Node{node(1, 0, 0, 0)}},
		{States: 2, Hood: l[:1], Nodes: []api.Node{node(0, 0, 0)}},
		{States: 2, Hood: l[:1], Nodes: []api.Node{node(1, 2, 0), node(1, 0, 0)}},
		{States: 2, Hood: l, Nodes: []api.Node{node(1, 0, 0)}},
		{States: 2, Hood: l, Nodes: []api.Node{node(1, 0, 0), node(2, 0, 1)}},
		{States: 2, Hood: l, Nodes: []api.Node{node(1, 0, 0), node(2, 0, 0), node(1, 0, 0)}},
		{States: 2, Hood: []api.Point{{}, {}}, Nodes: []api.Node{node(1, 0, 0), node(2, 0, 0)}},
		{States: 2, Hood: []api.Point{{}, {X: 3}}, Nodes: []api.Node{node(1, 0, 0), node(2, 0, 0)}},
		{States: 2, Hood: []api.Point{{}, {X: -1}}, Nodes: []api.Node{node(1, 0, 0), node(2, 0, 0)}},
		{States: 2, Hood: l[:1], Nodes: slices.Repeat([]api.Node{node(1, 0, 0)}, 4097)},
	} {
		checkQuiet(t, own, false)
	}
}

// P12.3: random trees, valid and not.
func TestQuietRandom(t *testing.T) {
	rng := rand.New(rand.NewSource(224))
	for range 2000 {
		own := randomTree(rng, 2+rng.Intn(3), drawn(small[rng.Intn(len(small))]), rng.Intn(20))
		checkQuiet(t, own, quietModel(own))
		other := broken(rng, own)
		checkQuiet(t, other, quietModel(other))
	}
}

// P12.10: another node in front of the others, to which no index refers, and a node that is not needed at any other place.
func TestEvalIsLocal(t *testing.T) {
	rng := rand.New(rand.NewSource(225))
	for _, drawing := range small {
		l := drawn(drawing)
		for _, states := range []int{2, 3, 4} {
			var list []api.Tree
			for s := range states {
				list = append(list, always(s).tree(states, l))
			}
			for k := range l {
				list = append(list, reading(k).tree(states, l))
			}
			for range 5 {
				list = append(list, randomTree(rng, states, l, 15), randomRule(rng, states, len(l)).tree(states, l))
			}
			for _, own := range list {
				want := newStates(own)
				for s := range states {
					checkValues(t, inserted(own, 0, node(1, slices.Repeat([]int{s}, states)...)), want)
				}
				at := rng.Intn(len(own.Nodes))
				checkValues(t, inserted(own, at, own.Nodes[at]), want)
			}
		}
	}
}
