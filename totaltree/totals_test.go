package totaltree_test

import (
	"math"
	"math/rand"
	"slices"
	"testing"

	"cellular/api"
	"cellular/hood"
	"cellular/lifelike"
	"cellular/totaltree"
	"cellular/tree"
)

// checkTotals compares Totals with the expected results, and checks that it leaves the rule as it was.
func checkTotals(t *testing.T, x api.Totals, want api.Tree, wanted api.Errno) {
	t.Helper()
	given := laidTotals(x)
	got, e := totaltree.Totals(given)
	checkTree(t, got, e, want, wanted, "Totals of", x)
	if !sameTotals(wholeTotals(given), wholeTotals(laidTotals(x))) {
		t.Errorf("Totals changed the rule %v to %v", x, given)
	}
}

// lists returns lists of numbers of neighbours: nil, empty, full, the least, the greatest and some others.
func lists(neighbours int) [][]int {
	full := subset(1<<(neighbours+1) - 1)
	return [][]int{
		nil, {}, full, {0}, {neighbours}, {3}, {2, 3}, {0, neighbours}, {1, 2, neighbours}, full[1:], full[:neighbours],
	}
}

// someRules returns rules by counts with each pair of lists.
func someRules(drawing string, states int) []api.Totals {
	var rules []api.Totals
	l := drawn(drawing)
	for _, birth := range lists(len(l) - 1) {
		for _, survive := range lists(len(l) - 1) {
			rules = append(rules, totals(drawing, states, birth, survive))
		}
	}
	return rules
}

// randomTotals returns a valid rule by counts.
func randomTotals(rng *rand.Rand, drawing string, states int) api.Totals {
	n := 1 << len(drawn(drawing))
	return totals(drawing, states, subset(rng.Intn(n)), subset(rng.Intn(n)))
}

// P14.1: trees of small rules, node by node.
func TestTotalsNodes(t *testing.T) {
	full := []int{0, 1, 2, 3, 4}
	for _, c := range []struct {
		states         int
		birth, survive []int
		nodes          []api.Node
	}{
		{2, nil, nil, []api.Node{node(1, 0, 0), node(2, 0, 0), node(3, 1, 1), node(4, 2, 2), node(5, 3, 3)}},
		{2, full, full, []api.Node{node(1, 1, 1), node(2, 0, 0), node(3, 1, 1), node(4, 2, 2), node(5, 3, 3)}},
		{2, full, nil, []api.Node{
			node(1, 1, 1), node(2, 0, 0), node(1, 0, 0), node(2, 2, 2), node(3, 1, 3), node(4, 4, 4), node(5, 5, 5),
		}},
		{2, nil, full, []api.Node{
			node(1, 0, 0), node(2, 0, 0), node(1, 1, 1), node(2, 2, 2), node(3, 1, 3), node(4, 4, 4), node(5, 5, 5),
		}},
		{3, nil, nil, []api.Node{
			node(1, 0, 0, 0), node(2, 0, 0, 0), node(1, 2, 2, 2), node(2, 2, 2, 2), node(3, 1, 3, 1), node(4, 4, 4, 4), node(5, 5, 5, 5),
		}},
		{4, full, full, []api.Node{
			node(1, 1, 1, 1, 1), node(2, 0, 0, 0, 0), node(1, 3, 3, 3, 3), node(2, 2, 2, 2, 2), node(1, 0, 0, 0, 0), node(2, 4, 4, 4, 4),
			node(3, 1, 1, 3, 5), node(4, 6, 6, 6, 6), node(5, 7, 7, 7, 7),
		}},
		{2, []int{4}, nil, []api.Node{
			node(1, 0, 0), node(2, 0, 0), node(3, 1, 1), node(4, 2, 2), node(1, 0, 1), node(2, 0, 4), node(3, 5, 1), node(4, 2, 6),
			node(5, 3, 7),
		}},
		{3, []int{4}, full, []api.Node{
			node(1, 0, 0, 0), node(2, 0, 0, 0), node(1, 1, 1, 1), node(2, 2, 2, 2), node(3, 1, 3, 1), node(4, 4, 4, 4), node(1, 0, 1, 0),
			node(2, 0, 6, 0), node(3, 7, 3, 1), node(4, 4, 8, 4), node(5, 5, 9, 5),
		}},
	} {
		checkTotals(t, totals(neumann, c.states, c.birth, c.survive), made(c.states, neumann, c.nodes...), api.OK)
	}
}

// P14.1: the example of the chapter.
func TestConway(t *testing.T) {
	for _, x := range []api.Totals{
		totals(moore, 2, []int{3}, []int{2, 3}), {Hood: hood.Moore(1), States: 2, Birth: []int{3}, Survive: []int{2, 3}},
	} {
		checkTotals(t, x, listed(2, drawn(moore), newStates(x)), api.OK)
		own, _ := totaltree.Totals(x)
		if root := own.Nodes[len(own.Nodes)-1]; root.Level != 9 {
			t.Errorf("the root has the level %d", root.Level)
		}
		for _, in := range everyState(2, 9) {
			s, e := tree.Eval(own, in)
			_, number := class(x.Hood, in)
			if e != api.OK || s != newState(x, in) || number == 5 && s != 0 {
				t.Errorf("Eval for %v is %d with the error %d", in, s, e)
			}
		}
	}
}

// P14.1: all rules with two states and the neighbourhood Neumann(1), compared with the list of all new states.
func TestTotalsEvery(t *testing.T) {
	for bits := range 1 << 10 {
		x := totals(neumann, 2, subset(bits&31), subset(bits>>5))
		checkTotals(t, x, listed(2, x.Hood, newStates(x)), api.OK)
	}
}

// P14.1: rules with several numbers of states, compared with the list of all new states.
func TestTotalsLists(t *testing.T) {
	rng := rand.New(rand.NewSource(141))
	for _, c := range []struct {
		drawing string
		most    int
	}{{neumann, 8}, {hex, 4}, {moore, 3}} {
		for states := 2; states <= c.most; states++ {
			for range 3 {
				x := randomTotals(rng, c.drawing, states)
				checkTotals(t, x, listed(states, x.Hood, newStates(x)), api.OK)
			}
		}
	}
}

// P14.1, and rule 1 for all calls: rules with each neighbourhood and each number of states, compared with a tree of the model and with new
// states for random states of the neighbourhood, in most of which the states 0 and 1 are frequent.
func TestTotalsRules(t *testing.T) {
	rng := rand.New(rand.NewSource(142))
	for _, drawing := range usual {
		for states := 2; states <= api.MaxStates; states++ {
			rules := someRules(drawing, states)
			for range 20 {
				rules = append(rules, randomTotals(rng, drawing, states))
			}
			for _, x := range rules {
				want := countTree(x)
				checkTotals(t, x, want, api.OK)
				for range 100 {
					in := randomList(rng, rng.Intn(states-1)+2, len(x.Hood))
					if s, wanted := following(want).value(in), newState(x, in); s != wanted {
						t.Errorf("%v leads from %v to %d, not %d", x, in, s, wanted)
					}
				}
			}
		}
	}
}

// P14.1: the constructors of layer 7 return the neighbourhoods of rules by counts.
func TestTotalsHoods(t *testing.T) {
	for _, l := range [][]api.Point{hood.Moore(1), hood.Neumann(1), hood.Hex()} {
		x := api.Totals{Hood: l, States: 3, Birth: []int{2}}
		checkTotals(t, x, countTree(x), api.OK)
	}
}

// wrongTotals returns rules by counts that are not valid: each condition is broken once, and mostly all others hold.
func wrongTotals() []api.Totals {
	var list []api.Totals
	for _, drawing := range usual {
		for _, l := range wrongHoods(drawing) {
			list = append(list, api.Totals{Hood: l, States: 2, Birth: []int{3}, Survive: []int{2, 3}}, api.Totals{Hood: l, States: 8})
		}
		for _, states := range ints {
			if states < 2 || states > 8 {
				list = append(list, totals(drawing, states, []int{3}, []int{2, 3}), totals(drawing, states, nil, nil))
			}
		}
		n := len(drawn(drawing))
		for _, wrong := range [][]int{
			{-1}, {n}, {n + 1}, {-1, 2}, {2, n}, {2, 2}, {0, 0}, {n - 1, n - 1}, {3, 2}, {1, 2, 2}, {1, 3, 2}, {2, 1, 3}, {1, 0}, {-2, -1, 0},
			{0, 256}, {1 << 32}, {1<<32 + 1}, {math.MinInt}, {math.MaxInt}, {0, math.MaxInt}, {math.MinInt, 0}, slices.Repeat([]int{1}, 1000),
		} {
			for _, right := range [][]int{nil, {3}} {
				list = append(list, totals(drawing, 2, wrong, right), totals(drawing, 2, right, wrong), totals(drawing, 8, wrong, right))
				list = append(list, totals(drawing, 8, right, wrong))
			}
			list = append(list, totals(drawing, 2, wrong, wrong), totals(drawing, 9, wrong, nil), totals(line, 2, wrong, nil))
		}
	}
	return append(list, api.Totals{})
}

// wrongHoods returns lists of offsets that are no neighbourhoods of rules by counts, most of which differ little from a given one.
func wrongHoods(drawing string) [][]api.Point {
	l := drawn(drawing)
	reversed := slices.Clone(l)
	slices.Reverse(reversed)
	list := [][]api.Point{
		nil, {}, {{}}, drawn(line), drawn(square), drawn("..o.. .ooo. ooooo .ooo. ..o.."), drawn(".oo ooo oo."), drawn("ooo o.o ooo"),
		drawn("o.o .o. o.o"), drawn(".o. o.o .o."), drawn("..... ..... ooooo ..... ....."), drawn(".oo ooo .oo"), reversed,
	}
	for i := range l {
		list = append(list, slices.Delete(slices.Clone(l), i, i+1))
		list = append(list, slices.Insert(slices.Clone(l), i, l[i]))
		for _, p := range []api.Point{{X: 2, Y: l[i].Y}, {X: l[i].X + 256, Y: l[i].Y}, {X: l[i].X, Y: l[i].Y + 1<<32}, {X: math.MinInt}} {
			other := slices.Clone(l)
			other[i] = p
			list = append(list, other)
		}
		for k := range i {
			other := slices.Clone(l)
			other[i], other[k] = other[k], other[i]
			list = append(list, other)
		}
	}
	for _, p := range []api.Point{{X: -2, Y: -2}, {Y: 2}, {X: 1, Y: 2}, {X: math.MaxInt, Y: math.MaxInt}} {
		list = append(list, slices.Insert(slices.Clone(l), 0, p), append(slices.Clone(l), p))
	}
	return list
}

// P14.1: rules that are not valid.
func TestTotalsWrong(t *testing.T) {
	for _, x := range wrongTotals() {
		if lifelike.Right(x) {
			t.Errorf("%v is valid", x)
		}
		checkTotals(t, x, api.Tree{}, api.ErrArg)
	}
}

// P14.1, and LANGUAGE.md, rule 7: the tree is new memory.
func TestTotalsIsNew(t *testing.T) {
	for _, drawing := range usual {
		for states := 2; states <= api.MaxStates; states++ {
			x := laidTotals(totals(drawing, states, []int{3}, []int{2, 3}))
			given := laidTotals(x)
			checkNewTree(t, func() (api.Tree, api.Errno) { return totaltree.Totals(given) })
			if !sameTotals(wholeTotals(given), wholeTotals(laidTotals(x))) {
				t.Errorf("the tree shares memory with %v", x)
			}
			got, e := totaltree.Totals(given)
			fill(given.Hood, api.Point{X: 98})
			fill(given.Birth, 98)
			fill(given.Survive, 98)
			checkTree(t, got, e, countTree(x), api.OK, "the tree, after a change of the rule,")
		}
	}
}

// P14.6: rules whose new states can be listed are the same trees with two neighbours exchanged.
func TestExchanged(t *testing.T) {
	rng := rand.New(rand.NewSource(146))
	for _, c := range []struct {
		drawing string
		states  int
	}{{neumann, 2}, {neumann, 3}, {neumann, 5}, {hex, 2}, {hex, 3}, {moore, 2}} {
		x := randomTotals(rng, c.drawing, c.states)
		got, e := totaltree.Totals(x)
		all := everyState(c.states, len(x.Hood))
		for _, pair := range pairs(x.Hood) {
			var list []int
			for _, in := range all {
				in[pair[0]], in[pair[1]] = in[pair[1]], in[pair[0]]
				s, _ := tree.Eval(got, in)
				list = append(list, s)
				in[pair[0]], in[pair[1]] = in[pair[1]], in[pair[0]]
			}
			checkTree(t, got, e, listed(c.states, x.Hood, list), api.OK, "Totals of", x, "compared with", pair, "exchanged")
		}
	}
}

// P14.6: rules with each number of states lead to the same new states with two neighbours exchanged.
func TestExchangedStates(t *testing.T) {
	rng := rand.New(rand.NewSource(147))
	for _, drawing := range usual {
		for states := 2; states <= api.MaxStates; states++ {
			x := randomTotals(rng, drawing, states)
			own, _ := totaltree.Totals(x)
			for _, pair := range pairs(x.Hood) {
				for range 30 {
					in := randomList(rng, states, len(x.Hood))
					before, _ := tree.Eval(own, in)
					in[pair[0]], in[pair[1]] = in[pair[1]], in[pair[0]]
					if after, e := tree.Eval(own, in); after != before || e != api.OK {
						t.Errorf("%v leads to %d, and with %v exchanged to %d", x, before, pair, after)
					}
				}
			}
		}
	}
}

// pairs returns all pairs of indices of neighbours other than the centre.
func pairs(l []api.Point) [][2]int {
	var list [][2]int
	for i := range l {
		for k := range i {
			if l[i] != (api.Point{}) && l[k] != (api.Point{}) {
				list = append(list, [2]int{k, i})
			}
		}
	}
	return list
}

// P14.7: a rule by counts is quiet if and only if Birth does not contain 0.
func TestQuiet(t *testing.T) {
	for _, drawing := range usual {
		for states := 2; states <= api.MaxStates; states++ {
			for _, x := range someRules(drawing, states) {
				own, e := totaltree.Totals(x)
				if e != api.OK || tree.Quiet(own) == slices.Contains(x.Birth, 0) {
					t.Errorf("the tree of %v is quiet: %t", x, tree.Quiet(own))
				}
			}
		}
	}
}
