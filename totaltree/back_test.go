package totaltree_test

import (
	"math"
	"math/rand"
	"slices"
	"testing"

	"cellular/api"
	"cellular/totaltree"
	"cellular/tree"
)

// checkBack compares Back with the expected results, and checks that it leaves the tree as it was.
func checkBack(t *testing.T, own api.Tree, want api.Totals, is bool) {
	t.Helper()
	given := laidOut(own)
	got, ok := totaltree.Back(given)
	if !sameTotals(got, want) || ok != is {
		t.Errorf("Back of %s is %v with %t, not %v with %t", show(own), got, ok, want, is)
	}
	if !sameTree(whole(given), whole(laidOut(own))) || !sameTree(given, own) {
		t.Errorf("Back changed the tree %s", show(own))
	}
}

// checkNone checks that a tree is not that of a rule by counts.
func checkNone(t *testing.T, own api.Tree) {
	t.Helper()
	checkBack(t, own, api.Totals{}, false)
}

// ruleOf returns the rule by counts with a list of new states, in the order of everyState, if there is one.
func ruleOf(drawing string, states int, all [][]int, list []int) (api.Totals, bool) {
	x := totals(drawing, states, nil, nil)
	var becomes [2][10]bool
	for i, in := range all {
		if centre, number := class(x.Hood, in); centre <= 1 && list[i] == 1 {
			becomes[centre][number] = true
		}
	}
	for n := range 10 {
		if becomes[0][n] {
			x.Birth = append(x.Birth, n)
		}
		if becomes[1][n] {
			x.Survive = append(x.Survive, n)
		}
	}
	for i, in := range all {
		if list[i] != newState(x, in) {
			return api.Totals{}, false
		}
	}
	return x, true
}

// P14.4, P14.5: trees that Totals returned, for rules of each neighbourhood and each number of states, also if their lists are nil or
// empty, and trees that are not reduced and have the same new states.
func TestBack(t *testing.T) {
	rng := rand.New(rand.NewSource(144))
	for _, drawing := range usual {
		for states := 2; states <= api.MaxStates; states++ {
			rules := someRules(drawing, states)
			for range 20 {
				rules = append(rules, randomTotals(rng, drawing, states))
			}
			for i, x := range rules {
				own, e := totaltree.Totals(x)
				if e != api.OK {
					t.Errorf("Totals of %v is the error %d", x, e)
				}
				checkBack(t, own, x, true)
				if i%5 != 0 {
					continue
				}
				// Equal nodes, nodes that are not needed, and nodes in another order.
				longer := grown(rng, own, len(own.Nodes)+10)
				more := inserted(longer, rng.Intn(len(longer.Nodes)), node(1, randomList(rng, states, states)...))
				for _, other := range []api.Tree{longer, more, byLevel(own), byLevel(more)} {
					checkBack(t, other, x, true)
				}
			}
		}
	}
}

// P14.5: all rules with two states and the neighbourhood Neumann(1).
func TestBackEvery(t *testing.T) {
	for bits := range 1 << 10 {
		x := totals(neumann, 2, subset(bits&31), subset(bits>>5))
		own, _ := totaltree.Totals(x)
		checkBack(t, own, x, true)
	}
}

// P14.4, P14.5: trees that have other nodes on each way.
func TestBackUnreduced(t *testing.T) {
	rng := rand.New(rand.NewSource(145))
	for _, drawing := range usual {
		for _, states := range []int{2, 3, 8} {
			x := randomTotals(rng, drawing, states)
			own := countTree(x)
			for range 100 {
				in := randomList(rng, states, len(x.Hood))
				own = changedAt(own, in, newState(x, in))
			}
			checkBack(t, own, x, true)
		}
	}
}

// P14.4: trees that are off by one new state only, for each of the states of the neighbourhood: there are rules by counts with these new
// states only if no other states of the neighbourhood have the same state of the centre and the same number.
func TestBackOffByOne(t *testing.T) {
	rng := rand.New(rand.NewSource(146))
	for _, c := range []struct {
		drawing       string
		states, rules int
	}{{neumann, 2, 20}, {neumann, 3, 5}, {hex, 2, 6}, {moore, 2, 2}} {
		all := everyState(c.states, len(drawn(c.drawing)))
		found := map[bool]int{}
		for range c.rules {
			x := randomTotals(rng, c.drawing, c.states)
			own, list := countTree(x), newStates(x)
			for i, in := range all {
				for s := range c.states {
					right := list[i]
					list[i] = s
					want, is := ruleOf(c.drawing, c.states, all, list)
					checkBack(t, changedAt(own, in, s), want, is)
					found[is]++
					list[i] = right
				}
			}
		}
		if found[true] <= c.rules*len(all) || found[false] == 0 {
			t.Errorf("there are %v rules by counts and others", found)
		}
	}
}

// P14.4: trees with many states that are off by one new state only. There are always other states of the neighbourhood with the same state
// of the centre and the same number, unless all neighbours have the state 1.
func TestBackOffByOneOfMany(t *testing.T) {
	rng := rand.New(rand.NewSource(147))
	for _, drawing := range usual {
		for _, states := range []int{3, 4, 8} {
			x := randomTotals(rng, drawing, states)
			own := countTree(x)
			for range 200 {
				in := randomList(rng, rng.Intn(states-1)+2, len(x.Hood))
				if _, number := class(x.Hood, in); number == len(in)-1 {
					continue
				}
				right := newState(x, in)
				checkBack(t, changedAt(own, in, right), x, true)
				checkNone(t, changedAt(own, in, (right+1+rng.Intn(states-1))%states))
			}
		}
	}
}

// P14.4: trees that are off by one new state for the states of the neighbourhood in which some neighbours have the state 1, from the first
// or the last one on, and all others the state 0 or the greatest one.
func TestBackOffByOneInOrder(t *testing.T) {
	for _, drawing := range usual {
		for _, states := range []int{3, 8} {
			x := totals(drawing, states, []int{0, 3}, []int{2, 4})
			own := countTree(x)
			for number := range len(x.Hood) - 1 {
				for _, rest := range []int{0, states - 1} {
					for centre := range states {
						ones := slices.Concat(slices.Repeat([]int{1}, number), slices.Repeat([]int{rest}, len(x.Hood)-1-number))
						first := slices.Insert(slices.Clone(ones), len(x.Hood)/2, centre)
						slices.Reverse(ones)
						last := slices.Insert(ones, len(x.Hood)/2, centre)
						for _, s := range []int{0, 1, 2, states - 1} {
							is := s == counted(x, centre, number)
							want := x
							if !is {
								want = api.Totals{}
							}
							checkBack(t, changedAt(own, first, s), want, is)
							checkBack(t, changedAt(own, last, s), want, is)
						}
					}
				}
			}
		}
	}
}

// P14.4: trees with three or more states that treat the states above 1 otherwise than a rule by counts.
func TestBackDying(t *testing.T) {
	for _, drawing := range usual {
		l := drawn(drawing)
		for _, states := range []int{3, 4, 8} {
			x := totals(drawing, states, []int{2}, []int{1, 3})
			plain := func(centre, number int) int { return counted(x, centre, number) }
			checkBack(t, counting(l, []int{1}, plain).tree(states, l), x, true)
			for s := range states {
				// The state s, or 1 and s, are counted.
				if s != 1 {
					checkNone(t, counting(l, []int{s}, plain).tree(states, l))
					checkNone(t, counting(l, []int{1, s}, plain).tree(states, l))
				}
				// A state above 1 leads to another one, always or for some number of neighbours.
				for centre := 2; centre < states; centre++ {
					if s == counted(x, centre, 0) {
						continue
					}
					checkNone(t, counting(l, []int{1}, func(c, n int) int {
						if c == centre {
							return s
						}
						return plain(c, n)
					}).tree(states, l))
					for number := range len(l) {
						checkNone(t, counting(l, []int{1}, func(c, n int) int {
							if c == centre && n == number {
								return s
							}
							return plain(c, n)
						}).tree(states, l))
					}
				}
			}
		}
	}
}

// P14.4: trees that lead from the states 0 and 1 to another state than 0, 1 or 2 for some number of neighbours, or to one of these that is
// not allowed.
func TestBackLiving(t *testing.T) {
	for _, drawing := range usual {
		l := drawn(drawing)
		for states := 2; states <= api.MaxStates; states++ {
			x := totals(drawing, states, []int{2}, []int{1, 3})
			for centre := range 2 {
				for number := range len(l) {
					for s := range states {
						own := counting(l, []int{1}, func(c, n int) int {
							if c == centre && n == number {
								return s
							}
							return counted(x, c, n)
						}).tree(states, l)
						want := totals(drawing, states, with(x.Birth, number, centre == 0, s), with(x.Survive, number, centre == 1, s))
						if s == 1 || s == counted(totals(drawing, states, nil, nil), centre, number) {
							checkBack(t, own, want, true)
						} else {
							checkNone(t, own)
						}
					}
				}
			}
		}
	}
}

// with returns a list that contains a number just if it leads to the state 1; or the list itself, if it is not the one that is meant.
func with(l []int, number int, meant bool, s int) []int {
	if !meant {
		return l
	}
	var other []int
	for n := range 10 {
		if n == number && s == 1 || n != number && slices.Contains(l, n) {
			other = append(other, n)
		}
	}
	return other
}

// P14.4: the trees of elementary and totalistic rules.
func TestBackRows(t *testing.T) {
	for n := range 256 {
		own, _ := totaltree.Elementary(n)
		checkNone(t, own)
	}
	for states := 2; states <= api.MaxStates; states++ {
		for _, n := range []int{0, 1, 6, 15, last(states)} {
			own, _ := totaltree.Sums(states, n)
			checkNone(t, own)
		}
	}
}

// P14.4: the nodes of the tree of a rule by counts with other neighbourhoods, which have as many offsets but are not valid or not one of a
// rule by counts, and with those of another number of offsets.
func TestBackHoods(t *testing.T) {
	for _, drawing := range usual {
		for _, states := range []int{2, 3, 8} {
			own := countTree(totals(drawing, states, []int{2}, []int{1, 3}))
			for _, l := range wrongHoods(drawing) {
				checkNone(t, api.Tree{States: states, Hood: l, Nodes: own.Nodes})
			}
			for _, other := range usual {
				if other != drawing {
					checkNone(t, api.Tree{States: states, Hood: drawn(other), Nodes: own.Nodes})
				}
			}
		}
	}
}

// P14.4: trees with valid neighbourhoods that are not those of rules by counts, some without a centre, and which lead to new states as
// rules by counts would.
func TestBackOtherHoods(t *testing.T) {
	for _, drawing := range []string{
		"o", "... ..o ...", line, "..... ..... ooooo ..... .....", ".oo ooo oo.", "ooo o.o ooo", ".o. o.o .o.", "o.o .o. o.o", "oo. ooo ooo",
		"ooooo ..... ..... ..... ....o", "..o.. ..... o.o.o ..... ..o..", "..o.. .ooo. ooooo .ooo. ..o..", square,
	} {
		l := drawn(drawing)
		for states := 2; states <= api.MaxStates; states++ {
			for _, birth := range [][]int{nil, {2}, {0, 1}} {
				x := totals(drawing, states, birth, []int{2, 3})
				own := countTree(x)
				if !tree.Right(own) {
					t.Errorf("the tree %s is not valid", show(own))
				}
				checkNone(t, own)
			}
			checkNone(t, summing(func(sum int) int { return sum % states }).tree(states, l))
		}
	}
}

// P14.4: trees that read all states, but have the neighbourhood of a rule by counts.
func TestBackOtherRules(t *testing.T) {
	rng := rand.New(rand.NewSource(148))
	for _, drawing := range usual {
		for states := 2; states <= api.MaxStates; states++ {
			l := drawn(drawing)
			// A constant 0 is a rule by counts, if there are two states, and a constant 1 as well.
			for s := range states {
				own, _ := tree.Constant(states, l, s)
				want, is := totals(drawing, states, nil, nil), states == 2
				if s == 1 {
					every := subset(1<<len(l) - 1)
					want.Birth, want.Survive = every, every
				}
				if !is {
					want = api.Totals{}
				}
				checkBack(t, own, want, is)
			}
			// The state of the centre is a rule by counts for two states, and no other one is.
			for k := range l {
				own, _ := tree.Read(states, l, k)
				want, is := totals(drawing, 2, nil, subset(1<<len(l)-1)), states == 2 && k == len(l)/2
				if !is {
					want = api.Totals{}
				}
				checkBack(t, own, want, is)
			}
			// The sum of all states modulo their number is one for two states, and otherwise it depends on states above 1.
			sum := summing(func(sum int) int { return sum % states }).tree(states, l)
			if states == 2 {
				checkBack(t, sum, totals(drawing, 2, subset(0b10101010&(1<<len(l)-1)), subset(0b101010101&(1<<len(l)-1))), true)
			} else {
				checkNone(t, sum)
			}
			for range 5 {
				checkNone(t, randomTree(rng, states, l, 100))
			}
		}
	}
}

// P14.4, and rule 1 for all calls: trees with the greatest numbers of offsets, of states and of nodes.
func TestBackLargest(t *testing.T) {
	rng := rand.New(rand.NewSource(149))
	for _, drawing := range usual {
		for states := 2; states <= api.MaxStates; states++ {
			x := randomTotals(rng, drawing, states)
			own, _ := totaltree.Totals(x)
			checkBack(t, grown(rng, own, 4096), x, true)
			for range 3 {
				checkNone(t, randomTree(rng, states, x.Hood, 4096))
			}
		}
	}
	for states := 2; states <= api.MaxStates; states++ {
		checkNone(t, randomTree(rng, states, drawn(square), 4096))
		checkNone(t, grown(rng, countTree(totals(square, states, []int{3}, []int{2, 3})), 4096))
	}
}

// wrongTrees returns trees that are not valid: each condition is broken once, and mostly all others hold. As far as possible they lead to
// the new states of a rule by counts.
func wrongTrees(rng *rand.Rand) []api.Tree {
	own := countTree(totals(neumann, 3, []int{1}, []int{2}))
	size := len(own.Nodes)
	list := []api.Tree{
		{}, {States: 3, Nodes: own.Nodes}, {Hood: own.Hood, Nodes: own.Nodes}, {States: 3, Hood: own.Hood}, {States: 2, Hood: own.Hood},
		{States: 3, Hood: own.Hood, Nodes: []api.Node{}},
		// Too many nodes.
		grown(rng, own, 4097), grown(rng, countTree(totals(moore, 8, []int{3}, []int{2})), 4097),
		// Another node as the root.
		{States: 3, Hood: own.Hood, Nodes: own.Nodes[:size-1]}, inserted(own, size, own.Nodes[0]), inserted(own, size, own.Nodes[size-2]),
		// Nodes that are not needed, with a wrong level, wrong numbers of elements and wrong elements.
		inserted(own, 1, node(0, 0, 0, 0)), inserted(own, 1, node(-1, 0, 0, 0)), inserted(own, size-1, node(6, 0, 0, 0)),
		inserted(own, 1, node(1, 0, 0)), inserted(own, 1, node(1, 0, 0, 0, 0)), inserted(own, 1, node(1)), inserted(own, 1, node(1, 0, 0, 3)),
		inserted(own, 1, node(1, 0, -1, 0)), inserted(own, 1, node(2, 1, 0, 0)), inserted(own, 1, node(2, 0, 0, -1)),
		inserted(own, 1, node(2, 0, 0, size)), inserted(own, 1, node(3, 0, 0, 0)), inserted(own, 1, node(1, math.MinInt, 0, 0)),
		inserted(own, 1, node(1, 0, math.MaxInt, 0)), inserted(own, 1, node(2, 0, 0, math.MaxInt)), inserted(own, 1, node(2, 1<<32, 0, 0)),
		inserted(own, size, node(6, size-1, size-1, size-1)), inserted(own, 1, node(math.MinInt, 0, 0, 0)),
		inserted(own, 1, node(math.MaxInt, 0, 0, 0)),
	}
	for _, states := range ints {
		if states != own.States {
			list = append(list, api.Tree{States: states, Hood: own.Hood, Nodes: own.Nodes})
		}
	}
	for _, l := range [][]api.Point{nil, {}, drawn(hex), drawn(moore), append(drawn(square), api.Point{Y: 3})} {
		list = append(list, api.Tree{States: 3, Hood: l, Nodes: own.Nodes})
	}
	// One state, and more than MaxStates of them.
	for _, states := range []int{1, 9, 10} {
		list = append(list, countTree(totals(neumann, states, []int{1}, []int{2})), countTree(totals(moore, states, nil, nil)))
	}
	return list
}

// P14.4: trees that are not valid.
func TestBackWrong(t *testing.T) {
	for i, own := range wrongTrees(rand.New(rand.NewSource(150))) {
		if tree.Right(own) {
			t.Errorf("the tree %d, %s, is valid", i, show(own))
		}
		checkNone(t, own)
	}
}

// P14.4: each fault of a node that the tree needs.
func TestBackFaults(t *testing.T) {
	for _, drawing := range usual {
		own := countTree(totals(drawing, 3, []int{1}, []int{2}))
		for i, old := range own.Nodes {
			for _, level := range []int{old.Level - 1, old.Level + 1, 0, -1, math.MaxInt} {
				other := laidOut(own)
				other.Nodes[i].Level = level
				checkNone(t, other)
			}
			for _, next := range [][]int{nil, old.Next[:2], append(slices.Clone(old.Next), old.Next[0])} {
				other := laidOut(own)
				other.Nodes[i].Next = next
				checkNone(t, other)
			}
			for k := range old.Next {
				for _, e := range []int{-1, i, max(i, 3), len(own.Nodes), math.MinInt, math.MaxInt, old.Next[k] + 1<<32} {
					if old.Level > 1 || e < 0 || e > 2 {
						other := laidOut(own)
						other.Nodes[i].Next[k] = e
						checkNone(t, other)
					}
				}
			}
		}
	}
}

// P14.4, and LANGUAGE.md, rule 7: the lists of a rule are new memory, and none with false.
func TestBackIsNew(t *testing.T) {
	rng := rand.New(rand.NewSource(151))
	for _, drawing := range usual {
		for _, states := range []int{2, 3, 8} {
			for _, l := range lists(len(drawn(drawing)) - 1) {
				x := totals(drawing, states, l, l)
				own := grown(rng, countTree(x), 300)
				given := laidOut(own)
				got, _ := totaltree.Back(given)
				fill(got.Birth, 97)
				if !slices.Equal(got.Survive, x.Survive) || !slices.Equal(got.Hood, x.Hood) {
					t.Errorf("the lists of %v share memory", x)
				}
				fill(got.Survive, 98)
				if len(got.Birth) > 0 && got.Birth[0] != 97 || !slices.Equal(got.Hood, x.Hood) {
					t.Errorf("the lists of %v share memory", x)
				}
				fill(got.Hood, api.Point{X: 99})
				if !sameTree(whole(given), whole(laidOut(own))) {
					t.Errorf("%v shares memory with %s", x, show(own))
				}
				got, _ = totaltree.Back(given)
				fill(given.Hood, api.Point{X: 96})
				for _, other := range given.Nodes {
					fill(other.Next, 96)
				}
				if !sameTotals(got, x) {
					t.Errorf("%v is %v after a change of the tree", x, got)
				}
			}
		}
	}
}
