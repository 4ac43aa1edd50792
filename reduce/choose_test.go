package reduce_test

import (
	"math/rand"
	"slices"
	"testing"

	"cellular/api"
	"cellular/reduce"
)

// checkChoose compares Choose with the expected results.
func checkChoose(t *testing.T, by api.Tree, l []api.Tree, want api.Tree, wanted api.Errno) {
	t.Helper()
	// The list is nil if it was.
	unchanged(t, append([]api.Tree{by}, l...), func(given []api.Tree) {
		list := given[1:]
		if l == nil {
			list = nil
		}
		got, e := reduce.Choose(given[0], list)
		checkTree(t, got, e, want, wanted, "Choose by", by, "from", len(l), "trees")
	})
}

// checkChosen compares Choose with the tree of the rule that follows the given trees.
func checkChosen(t *testing.T, by api.Tree, l []api.Tree) {
	t.Helper()
	var rules []rule
	for _, own := range l {
		rules = append(rules, following(own))
	}
	want, wanted := limited(chosen(following(by), rules).tree(by.States, by.Hood))
	checkChoose(t, by, l, want, wanted)
}

// P13.5: trees node by node.
func TestChooseNodes(t *testing.T) {
	zero, one := made(2, left, node(1, 0, 0), node(2, 0, 0)), made(2, left, node(1, 1, 1), node(2, 0, 0))
	first, second := made(2, left, node(1, 0, 0), node(1, 1, 1), node(2, 0, 1)), made(2, left, node(1, 0, 1), node(2, 0, 0))
	and, or := made(2, left, node(1, 0, 0), node(1, 0, 1), node(2, 0, 1)), made(2, left, node(1, 0, 1), node(1, 1, 1), node(2, 0, 1))
	for _, c := range []struct{ by, a, b, want api.Tree }{
		{zero, and, or, and}, {one, and, or, or}, {first, and, or, first}, {second, and, or, second},
		{first, zero, one, first}, {and, zero, one, and}, {or, or, or, or}, {and, or, and, or},
		{and, one, zero, made(2, left, node(1, 1, 1), node(1, 1, 0), node(2, 0, 1))},
		{first, second, one, or}, {first, zero, second, and}, {second, first, zero, made(2, left, node(1, 0, 0), node(1, 1, 0), node(2, 0, 1))},
		{first, one, second, made(2, left, node(1, 1, 1), node(1, 0, 1), node(2, 0, 1))},
	} {
		checkChoose(t, c.by, []api.Tree{c.a, c.b}, c.want, api.OK)
	}
}

// P13.5, P13.7: random trees, and the new states for all states of the neighbourhood.
func TestChooseValues(t *testing.T) {
	rng := rand.New(rand.NewSource(531))
	for _, drawing := range tiny {
		l := drawn(drawing)
		for states := 2; states <= api.MaxStates; states++ {
			for range 5 {
				by := randomTree(rng, states, l, rng.Intn(30))
				var list []api.Tree
				for range states {
					list = append(list, randomTree(rng, states, l, rng.Intn(30)))
				}
				var values []int
				for _, in := range everyState(states, len(l)) {
					values = append(values, followed(list[followed(by, in)], in))
				}
				checkChoose(t, by, list, listed(states, l, values), api.OK)
			}
		}
	}
}

// P13.5: all trees of two states and two offsets.
func TestChooseAll(t *testing.T) {
	every := everyState(2, 4)
	for _, by := range every {
		for _, a := range every {
			for _, b := range every {
				values := slices.Clone(a)
				for i, s := range by {
					if s == 1 {
						values[i] = b[i]
					}
				}
				l := []api.Tree{listed(2, drawn(left), a), listed(2, drawn(left), b)}
				checkChoose(t, listed(2, drawn(left), by), l, listed(2, drawn(left), values), api.OK)
			}
		}
	}
}

// P13.5: rules of many neighbourhoods up to MaxHood offsets, and trees that are all the same, all different, constant and not.
func TestChooseRules(t *testing.T) {
	rng := rand.New(rand.NewSource(532))
	for _, drawing := range all {
		l := drawn(drawing)
		for _, states := range []int{2, 3, 8} {
			for _, by := range []rule{always(states - 1), reading(rng.Intn(len(l))), summing(states), randomRule(rng, states, len(l))} {
				own := other(rng, by.tree(states, l))
				var constants, different []api.Tree
				for s := range states {
					constants = append(constants, always(states-1-s).tree(states, l))
					different = append(different, other(rng, remembering(rng, 2, states, len(l)).tree(states, l)))
				}
				checkChosen(t, own, constants)
				checkChosen(t, own, slices.Repeat(constants[:1], states))
				checkChosen(t, own, slices.Repeat(different[:1], states))
				// Equal, but with other nodes.
				checkChosen(t, own, append(slices.Repeat(different[:1], states-1), other(rng, different[0])))
				if states < 8 || len(l) < 6 {
					checkChosen(t, own, different)
				}
				checkChosen(t, own, append(slices.Repeat(different[:1], states-1), different[1]))
				checkChosen(t, own, append(slices.Repeat(different[:1], states-1), own))
				checkChosen(t, own, append(slices.Clone(constants[:states-1]), different[1]))
			}
		}
	}
}

// P13.5: a rule that never leads to some of the states.
func TestChooseSomeStates(t *testing.T) {
	rng := rand.New(rand.NewSource(533))
	for _, drawing := range all {
		l := drawn(drawing)
		for _, states := range []int{2, 3, 8} {
			for s := range states {
				list, rules := make([]api.Tree, states), slices.Repeat([]rule{always(0)}, states)
				for i := range list {
					list[i] = other(rng, reading(rng.Intn(len(l))).tree(states, l))
				}
				list[s] = other(rng, summing(states).tree(states, l))
				checkChoose(t, always(s).tree(states, l), list, summing(states).tree(states, l), api.OK)
				// Two of the trees are chosen.
				another := (s + 1) % states
				rules[s], rules[another] = summing(states), following(list[another])
				by := mapped(randomRule(rng, states, len(l)), append(slices.Repeat([]int{s}, states-1), another))
				want, wanted := limited(chosen(by, rules).tree(states, l))
				checkChoose(t, by.tree(states, l), list, want, wanted)
			}
		}
	}
}

// digit returns the digit d of a number with four digits in base 8, of which the first one is the highest, or of a limit if the number is
// greater. If there is no such digit, it is 0.
func digit(in []int, d, limit int) int {
	n := min(in[0]*512+in[1]*64+in[2]*8+in[3], limit)
	return []int{n / 512, n / 64 % 8, n / 8 % 8, n % 8, 0, 0, 0, 0}[d]
}

// digits is the rule that returns the digit with a limit of the states of four positions from the first one on, whose index is the state of
// the position behind them. Its reduced tree has a node for each of the numbers up to the limit.
func digits(first, limit int) rule {
	positions := []int{first, first + 1, first + 2, first + 3, first + 4}
	return picking(8, positions, func(in []int) int { return digit(in, in[4], limit) })
}

// digitTrees returns the tree that leads to the index of the digit, and the trees for the digits.
func digitTrees(l []api.Point, first, limit int) (api.Tree, []api.Tree) {
	var list []api.Tree
	for d := range 8 {
		positions := []int{first, first + 1, first + 2, first + 3}
		list = append(list, picking(8, positions, func(in []int) int { return digit(in, d, limit) }).tree(8, l))
	}
	return reading(first+4).tree(8, l), list
}

// P13.5: results of exactly MaxTree nodes, of fewer and of more. The trees that are given have far fewer.
func TestChooseSizes(t *testing.T) {
	for _, c := range []struct {
		drawing             string
		first, limit, nodes int
	}{
		{row, 0, 3579, 4095}, {row, 0, 3580, 4096}, {row, 0, 3581, 4097}, {row, 0, 4095, 4681},
		{square, 20, 3561, 4095}, {square, 20, 3562, 4096}, {square, 20, 3563, 4097}, {square, 20, 4095, 4701},
	} {
		l := drawn(c.drawing)
		want := digits(c.first, c.limit).tree(8, l)
		by, list := digitTrees(l, c.first, c.limit)
		given := len(by.Nodes)
		for _, own := range list {
			given += len(own.Nodes)
		}
		if len(want.Nodes) != c.nodes || given > 500 {
			t.Errorf("a choice from %d nodes has %d of them, not %d", given, len(want.Nodes), c.nodes)
		}
		want, wanted := limited(want)
		checkChoose(t, by, list, want, wanted)
	}
}

// P13.5: trees with the greatest numbers of states, of levels and of nodes.
func TestChooseLargest(t *testing.T) {
	rng := rand.New(rand.NewSource(534))
	own, by := widest(rng, 4096), widest(rng, 4096)
	checkChoose(t, by, slices.Repeat([]api.Tree{own}, 8), own, api.OK)
	var constants, different []api.Tree
	for s := range 8 {
		constants = append(constants, always(s).tree(8, drawn(square)))
		different = append(different, widest(rng, 800))
	}
	checkChoose(t, by, constants, by, api.OK)
	checkChoose(t, always(3).tree(8, own.Hood), append(slices.Clone(different[:3]), own, different[4], different[5], by, by), own, api.OK)
	checkChoose(t, different[0], different, api.Tree{}, api.ErrSize)
	checkChoose(t, reading(0).tree(8, own.Hood), slices.Repeat([]api.Tree{by, own}, 4), api.Tree{}, api.ErrSize)
	checkChoose(t, reading(24).tree(8, own.Hood), slices.Repeat([]api.Tree{by, own}, 4), api.Tree{}, api.ErrSize)
	checkChoose(t, summing(8).tree(8, own.Hood), slices.Repeat([]api.Tree{own, different[1]}, 4), api.Tree{}, api.ErrSize)
}

// P13.5, and rule 1 for all calls: the trees of the list read different positions, so that there are 64^8 selections of their nodes, but
// what they read matters only, or mostly, where they are not chosen.
func TestChooseManySelections(t *testing.T) {
	l := drawn(square)
	for _, c := range []struct {
		value func(s, first int) int // The new state where the tree for a state is chosen, for the first of the states that it reads.
		want  rule
	}{
		{func(s, first int) int { return 0 }, always(0)},
		{func(s, first int) int { return 7 - s }, mapped(reading(24), []int{7, 6, 5, 4, 3, 2, 1, 0})},
		{func(s, first int) int { return first / 4 }, rule{0, func(memory, position, state int) int {
			switch {
			case position == 24:
				return memory >> (7 - state) % 2
			case position%3 == 0:
				return memory*2 + state/4
			}
			return memory
		}, same}},
		{func(s, first int) int { return first }, rule{}},
	} {
		var list []api.Tree
		for s := range 8 {
			list = append(list, picking(8, []int{3 * s, 3*s + 1, 24}, func(in []int) int {
				if in[2] == s {
					return c.value(s, in[0])
				}
				return (in[0]*8 + in[1]) >> in[2] % 2
			}).tree(8, l))
		}
		if c.want.read == nil {
			checkChoose(t, reading(24).tree(8, l), list, api.Tree{}, api.ErrSize)
		} else {
			checkChoose(t, reading(24).tree(8, l), list, c.want.tree(8, l), api.OK)
		}
	}
}

// P13.5: the first tree remembers other states than the result, so that there are far more than MaxTree pairs of their nodes. The trees of
// the list are different where they are not chosen.
func TestChooseManyPairs(t *testing.T) {
	l := drawn(square)
	bit := func(a, b, index int) int { return (a*8 + b) >> (index % 6) % 2 }
	by := picking(8, []int{0, 1, 23, 24}, func(in []int) int { return bit(in[0], in[1], in[2]) + in[3]%4*2 })
	want := picking(8, []int{2, 3, 22}, func(in []int) int { return bit(in[0], in[1], in[2]) })
	var list []api.Tree
	for s := range 8 {
		list = append(list, picking(8, []int{2, 3, 22, 24}, func(in []int) int {
			if in[3]%4 == s/2 {
				return bit(in[0], in[1], in[2])
			}
			return (bit(in[0], in[1], in[2]) + 1 + s) % 8
		}).tree(8, l))
	}
	checkChoose(t, by.tree(8, l), list, want.tree(8, l), api.OK)
}

// P13.5: lists with another number of trees than there are states.
func TestChooseLengths(t *testing.T) {
	for _, drawing := range []string{single, left, square} {
		l := drawn(drawing)
		for states := 2; states <= api.MaxStates; states++ {
			own := summing(states).tree(states, l)
			for _, n := range []int{0, 1, 2, states - 1, states, states + 1, 2 * states, 9, 100} {
				want, wanted := api.Tree{}, api.ErrArg
				if n == states {
					want, wanted = own, api.OK
				}
				checkChoose(t, own, slices.Repeat([]api.Tree{own}, n), want, wanted)
			}
			checkChoose(t, own, nil, api.Tree{}, api.ErrArg)
		}
	}
}

// P13.5: trees with another number of states or another neighbourhood, at each place, also for a state that is never chosen.
func TestChooseOthers(t *testing.T) {
	for _, drawing := range []string{single, left, moore} {
		l := drawn(drawing)
		for states := 2; states <= api.MaxStates; states++ {
			for place := range states {
				for _, by := range []rule{always(0), always(states - 1), summing(states)} {
					own := by.tree(states, l)
					list := slices.Repeat([]api.Tree{own}, states)
					for more := 2; more <= api.MaxStates; more++ {
						list[place] = always(0).tree(more, l)
						if more != states {
							checkChoose(t, own, list, api.Tree{}, api.ErrArg)
						}
					}
					for _, another := range all {
						list[place] = by.tree(states, drawn(another))
						if another != drawing {
							checkChoose(t, own, list, api.Tree{}, api.ErrArg)
						}
					}
				}
			}
		}
	}
	// The nodes are the same, and one offset is not.
	own, another := summing(2).tree(2, drawn(neumann)), summing(2).tree(2, drawn("oo. .oo .o."))
	checkChoose(t, own, []api.Tree{own, another}, api.Tree{}, api.ErrArg)
	checkChoose(t, own, []api.Tree{another, own}, api.Tree{}, api.ErrArg)
	checkChoose(t, own, []api.Tree{another, another}, api.Tree{}, api.ErrArg)
}

// P13.5: trees that are not valid, at each place, and before all other errors.
func TestChooseWrong(t *testing.T) {
	by, list := digitTrees(drawn(row), 0, 4095)
	right := []api.Tree{always(0).tree(2, drawn(left)), always(1).tree(3, drawn(left)), always(1).tree(2, drawn(line))}
	for _, own := range wrongTrees() {
		for _, another := range right {
			for n := range 5 {
				checkChoose(t, own, slices.Repeat([]api.Tree{another}, n), api.Tree{}, api.ErrRule)
				for place := range n {
					list := slices.Repeat([]api.Tree{another}, n)
					list[place] = own
					checkChoose(t, right[0], list, api.Tree{}, api.ErrRule)
				}
			}
		}
		checkChoose(t, own, nil, api.Tree{}, api.ErrRule)
		checkChoose(t, own, []api.Tree{own, own}, api.Tree{}, api.ErrRule)
		// Without it the result would have too many nodes.
		checkChoose(t, by, append(slices.Clone(list[:7]), own), api.Tree{}, api.ErrRule)
	}
	// Too many nodes, and another error.
	checkChoose(t, by, append(list, list[0]), api.Tree{}, api.ErrArg)
	checkChoose(t, by, append(slices.Clone(list[:7]), always(0).tree(8, drawn(neumann))), api.Tree{}, api.ErrArg)
	checkChoose(t, by, append(slices.Clone(list[:7]), always(0).tree(7, drawn(row))), api.Tree{}, api.ErrArg)
}

// P13.5, and LANGUAGE.md, rule 7: the result is new memory.
func TestChosenIsNew(t *testing.T) {
	rng := rand.New(rand.NewSource(535))
	for _, drawing := range all {
		l := drawn(drawing)
		for _, states := range []int{2, 3, 8} {
			one := randomRule(rng, states, len(l)).tree(states, l)
			two := summing(states).tree(states, l)
			for _, by := range []rule{always(0), always(states - 1), reading(rng.Intn(len(l))), summing(states)} {
				given := append([]api.Tree{by.tree(states, l), one}, slices.Repeat([]api.Tree{two}, states-1)...)
				checkNew(t, given, func(l []api.Tree) (api.Tree, api.Errno) { return reduce.Choose(l[0], l[1:]) })
				given = append(given[:1], slices.Repeat([]api.Tree{one}, states)...)
				checkNew(t, given, func(l []api.Tree) (api.Tree, api.Errno) { return reduce.Choose(l[0], l[1:]) })
			}
		}
	}
}
