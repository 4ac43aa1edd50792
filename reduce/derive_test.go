package reduce_test

import (
	"fmt"
	"math"
	"math/rand"
	"slices"
	"testing"

	"cellular/api"
	"cellular/reduce"
)

// checkMap compares Map with the expected results.
func checkMap(t *testing.T, own api.Tree, to []int, want api.Tree, wanted api.Errno) {
	t.Helper()
	unchanged(t, []api.Tree{own}, func(l []api.Tree) {
		given, list := laid(to, 77), laid(to, 77)
		got, e := reduce.Map(l[0], given)
		checkTree(t, got, e, want, wanted, "Map of", own, "with", to)
		if !slices.Equal(given[:cap(given)], list[:cap(list)]) {
			t.Errorf("Map changed the list %v", begin(fmt.Sprint(to)))
		}
	})
}

// checkMaps compares Map of a rule, of trees with other nodes too, for many lists.
func checkMaps(t *testing.T, rng *rand.Rand, r rule, states int, l []api.Point) {
	t.Helper()
	own := r.tree(states, l)
	for _, to := range mapsOf(rng, states) {
		want := mapped(r, to).tree(states, l)
		checkMap(t, own, to, want, api.OK)
		checkMap(t, other(rng, own), to, want, api.OK)
	}
}

// mapsOf returns lists that lead each state to one: to itself, to another one, several states to one, and all to one.
func mapsOf(rng *rand.Rand, states int) [][]int {
	var next, last, itself, halves []int
	for s := range states {
		itself = append(itself, s)
		next = append(next, (s+1)%states)
		last = append(last, states-1-s)
		halves = append(halves, s/2)
	}
	return [][]int{
		itself, next, last, halves, make([]int, states), slices.Repeat([]int{states - 1}, states), rng.Perm(states),
		randomList(rng, states, states), randomList(rng, 2, states),
	}
}

// P13.3: trees node by node.
func TestMapNodes(t *testing.T) {
	and := []api.Node{node(1, 0, 0), node(1, 0, 1), node(2, 0, 1)}
	for _, c := range []struct {
		states      int
		drawing     string
		to          []int
		nodes, want []api.Node
	}{
		{2, left, []int{0, 1}, and, and},
		{2, left, []int{1, 0}, and, []api.Node{node(1, 1, 1), node(1, 1, 0), node(2, 0, 1)}},
		{2, left, []int{0, 0}, and, []api.Node{node(1, 0, 0), node(2, 0, 0)}},
		{2, left, []int{1, 1}, and, []api.Node{node(1, 1, 1), node(2, 0, 0)}},
		{2, single, []int{1, 1}, []api.Node{node(1, 0, 1)}, []api.Node{node(1, 1, 1)}},
		{3, single, []int{2, 0, 0}, []api.Node{node(1, 0, 1, 2)}, []api.Node{node(1, 2, 0, 0)}},
		// The elements of nodes of a higher level are no new states.
		{3, left, []int{1, 2, 0}, []api.Node{node(1, 0, 1, 2), node(1, 1, 2, 0), node(1, 2, 0, 1), node(2, 0, 1, 2)}, []api.Node{
			node(1, 1, 2, 0), node(1, 2, 0, 1), node(1, 0, 1, 2), node(2, 0, 1, 2),
		}},
		// Nodes become equal, and then those of the next level.
		{3, line, []int{0, 1, 1}, []api.Node{
			node(1, 0, 1, 0), node(1, 0, 2, 0), node(2, 0, 0, 0), node(2, 0, 1, 0), node(2, 1, 1, 1), node(3, 2, 3, 4),
		}, []api.Node{node(1, 0, 1, 0), node(2, 0, 0, 0), node(3, 1, 1, 1)}},
	} {
		checkMap(t, made(c.states, c.drawing, c.nodes...), c.to, made(c.states, c.drawing, c.want...), api.OK)
	}
}

// P13.3: rules of each number of states with many neighbourhoods, and lists of all kinds.
func TestMap(t *testing.T) {
	rng := rand.New(rand.NewSource(331))
	for _, drawing := range all {
		l := drawn(drawing)
		for states := 2; states <= api.MaxStates; states++ {
			checkMaps(t, rng, always(rng.Intn(states)), states, l)
			checkMaps(t, rng, reading(rng.Intn(len(l))), states, l)
			checkMaps(t, rng, randomRule(rng, states, len(l)), states, l)
		}
	}
	for _, to := range append(everyState(2, 2), everyState(3, 3)...) {
		r := summing(len(to))
		checkMap(t, r.tree(len(to), drawn(square)), to, mapped(r, to).tree(len(to), drawn(square)), api.OK)
	}
}

// P13.3, P13.7: random trees, and the new states for all states of the neighbourhood.
func TestMapValues(t *testing.T) {
	rng := rand.New(rand.NewSource(332))
	for _, drawing := range tiny {
		l := drawn(drawing)
		for states := 2; states <= api.MaxStates; states++ {
			own := randomTree(rng, states, l, rng.Intn(30))
			for _, to := range mapsOf(rng, states) {
				values := valuesOf(own)
				for i, s := range values {
					values[i] = to[s]
				}
				checkMap(t, own, to, listed(states, l, values), api.OK)
			}
		}
	}
}

// P13.3: the largest trees.
func TestMapLargest(t *testing.T) {
	rng := rand.New(rand.NewSource(333))
	own := widest(rng, 4096)
	for _, to := range mapsOf(rng, 8) {
		checkMap(t, own, to, mapped(following(own), to).tree(8, own.Hood), api.OK)
	}
	sum := grown(rng, summing(8).tree(8, drawn(square)), 4096)
	checkMap(t, sum, []int{0, 1, 0, 1, 0, 1, 0, 1}, mapped(summing(8), []int{0, 1, 0, 1, 0, 1, 0, 1}).tree(8, drawn(square)), api.OK)
}

// P13.3: lists that have another number of elements, or elements that are no states, with the order of the errors.
func TestMapErrors(t *testing.T) {
	rng := rand.New(rand.NewSource(334))
	for _, drawing := range []string{single, left, square} {
		for states := 2; states <= api.MaxStates; states++ {
			own := summing(states).tree(states, drawn(drawing))
			for _, n := range []int{0, 1, states - 1, states + 1, 2 * states, 9, 1000} {
				for _, s := range []int{0, 1, -1, states, math.MinInt, math.MaxInt} {
					if n != states {
						checkMap(t, own, slices.Repeat([]int{s}, n), api.Tree{}, api.ErrArg)
					}
				}
			}
			checkMap(t, own, nil, api.Tree{}, api.ErrArg)
			for place := range states {
				for _, s := range append([]int{states - 1, states, states + 1}, ints...) {
					to := randomList(rng, states, states)
					to[place] = s
					if s >= 0 && s < states {
						checkMap(t, own, to, mapped(summing(states), to).tree(states, drawn(drawing)), api.OK)
					} else {
						checkMap(t, own, to, api.Tree{}, api.ErrState)
					}
				}
			}
			// An element that no new state leads to is examined all the same.
			for place := 1; place < states; place++ {
				to := make([]int, states)
				to[place] = states
				checkMap(t, always(0).tree(states, drawn(drawing)), to, api.Tree{}, api.ErrState)
			}
		}
	}
	for _, own := range wrongTrees() {
		zeros := make([]int, max(0, min(own.States, 30)))
		for _, to := range [][]int{nil, {}, {0}, {0, 0}, {1, 0}, {0, 2}, {-1, 0}, {0, 1, 2}, make([]int, 8), zeros} {
			checkMap(t, own, to, api.Tree{}, api.ErrRule)
		}
	}
}

// checkFix compares Fix with the expected results.
func checkFix(t *testing.T, own api.Tree, k, s int, want api.Tree, wanted api.Errno) {
	t.Helper()
	unchanged(t, []api.Tree{own}, func(l []api.Tree) {
		got, e := reduce.Fix(l[0], k, s)
		checkTree(t, got, e, want, wanted, "Fix of", own, "with", k, s)
	})
}

// P13.4: trees node by node.
func TestFixNodes(t *testing.T) {
	second := []api.Node{node(1, 0, 1), node(1, 0, 1), node(2, 0, 1)}
	and := []api.Node{node(1, 0, 0), node(1, 0, 1), node(2, 0, 1)}
	for _, c := range []struct {
		states      int
		drawing     string
		k, s        int
		nodes, want []api.Node
	}{
		// The example of the chapter.
		{2, left, 1, 1, second, []api.Node{node(1, 1, 1), node(2, 0, 0)}},
		{2, left, 1, 0, second, []api.Node{node(1, 0, 0), node(2, 0, 0)}},
		{2, left, 0, 0, second, []api.Node{node(1, 0, 1), node(2, 0, 0)}},
		{2, left, 0, 1, second, []api.Node{node(1, 0, 1), node(2, 0, 0)}},
		{2, left, 0, 0, and, []api.Node{node(1, 0, 0), node(2, 0, 0)}},
		{2, left, 0, 1, and, []api.Node{node(1, 0, 1), node(2, 0, 0)}},
		{2, left, 1, 0, and, []api.Node{node(1, 0, 0), node(2, 0, 0)}},
		{2, left, 1, 1, and, []api.Node{node(1, 0, 0), node(1, 1, 1), node(2, 0, 1)}},
		{3, single, 0, 2, []api.Node{node(1, 0, 2, 1)}, []api.Node{node(1, 1, 1, 1)}},
		{8, single, 0, 7, []api.Node{node(1, 7, 6, 5, 4, 3, 2, 1, 0)}, []api.Node{node(1, 0, 0, 0, 0, 0, 0, 0, 0)}},
		// The position in the middle.
		{2, line, 1, 1, []api.Node{node(1, 0, 0), node(1, 0, 1), node(2, 0, 1), node(2, 1, 0), node(3, 2, 3)}, []api.Node{
			node(1, 0, 1), node(2, 0, 0), node(1, 0, 0), node(2, 2, 2), node(3, 1, 3),
		}},
	} {
		checkFix(t, made(c.states, c.drawing, c.nodes...), c.k, c.s, made(c.states, c.drawing, c.want...), api.OK)
	}
}

// P13.4: each position and each state, with many neighbourhoods, and positions that do not matter.
func TestFix(t *testing.T) {
	rng := rand.New(rand.NewSource(335))
	for _, drawing := range all {
		l := drawn(drawing)
		for _, states := range []int{2, 3, 8} {
			rules := []rule{randomRule(rng, states, len(l))}
			if len(l) < 6 {
				rules = append(rules, always(1), reading(rng.Intn(len(l))), summing(states))
			}
			for _, r := range rules {
				own := r.tree(states, l)
				another := other(rng, own)
				for k := range l {
					for s := range states {
						want := fixed(r, k, s).tree(states, l)
						checkFix(t, own, k, s, want, api.OK)
						checkFix(t, another, k, s, want, api.OK)
						// The position does not matter any more.
						checkFix(t, want, k, (s+1)%states, want, api.OK)
					}
				}
			}
		}
	}
}

// P13.4, P13.7: random trees, and the new states for all states of the neighbourhood.
func TestFixValues(t *testing.T) {
	rng := rand.New(rand.NewSource(336))
	for _, drawing := range tiny {
		l := drawn(drawing)
		for states := 2; states <= api.MaxStates; states++ {
			own := randomTree(rng, states, l, rng.Intn(30))
			for k := range l {
				for s := range states {
					var values []int
					for _, in := range everyState(states, len(l)) {
						in[k] = s
						values = append(values, followed(own, in))
					}
					checkFix(t, own, k, s, listed(states, l, values), api.OK)
				}
			}
		}
	}
}

// P13.4: the largest trees.
func TestFixLargest(t *testing.T) {
	rng := rand.New(rand.NewSource(337))
	own := widest(rng, 4096)
	for _, k := range []int{0, 1, 2, 3, 12, 23, 24} {
		s := rng.Intn(8)
		checkFix(t, own, k, s, fixed(following(own), k, s).tree(8, own.Hood), api.OK)
	}
	sum := grown(rng, summing(8).tree(8, drawn(square)), 4096)
	checkFix(t, sum, 11, 3, fixed(summing(8), 11, 3).tree(8, drawn(square)), api.OK)
}

// P13.4: numbers that are no indices of the neighbourhood, or no states, with the order of the errors.
func TestFixErrors(t *testing.T) {
	for _, drawing := range []string{single, left, neumann, square} {
		l := drawn(drawing)
		for _, states := range []int{2, 8} {
			own := summing(states).tree(states, l)
			for _, n := range append([]int{states - 1, states, states + 1, len(l) - 1, len(l), len(l) + 1}, ints...) {
				for _, m := range []int{math.MinInt, -1, 0, states - 1, states, len(l), math.MaxInt} {
					checkFixNumbers(t, own, n, m)
					checkFixNumbers(t, own, m, n)
				}
			}
		}
	}
	for _, own := range wrongTrees() {
		for _, k := range []int{math.MinInt, -1, 0, 1, 2, 24, 25, math.MaxInt} {
			for _, s := range []int{math.MinInt, -1, 0, 1, 2, 7, 8, math.MaxInt} {
				checkFix(t, own, k, s, api.Tree{}, api.ErrRule)
			}
		}
	}
}

// checkFixNumbers compares Fix of a valid tree with the expected results, whatever the position and the state are.
func checkFixNumbers(t *testing.T, own api.Tree, k, s int) {
	t.Helper()
	switch {
	case k < 0 || k >= len(own.Hood):
		checkFix(t, own, k, s, api.Tree{}, api.ErrArg)
	case s < 0 || s >= own.States:
		checkFix(t, own, k, s, api.Tree{}, api.ErrState)
	default:
		checkFix(t, own, k, s, fixed(following(own), k, s).tree(own.States, own.Hood), api.OK)
	}
}

// P13.3, P13.4, and LANGUAGE.md, rule 7: the results are new memory.
func TestDerivedIsNew(t *testing.T) {
	rng := rand.New(rand.NewSource(338))
	for _, drawing := range all {
		for _, states := range []int{2, 3, 8} {
			own := randomRule(rng, states, len(drawn(drawing))).tree(states, drawn(drawing))
			for _, given := range []api.Tree{own, other(rng, own)} {
				for _, to := range mapsOf(rng, states) {
					checkNew(t, []api.Tree{given}, func(l []api.Tree) (api.Tree, api.Errno) { return reduce.Map(l[0], to) })
				}
				for k := range drawn(drawing) {
					s := rng.Intn(states)
					checkNew(t, []api.Tree{given}, func(l []api.Tree) (api.Tree, api.Errno) { return reduce.Fix(l[0], k, s) })
				}
			}
		}
	}
}
