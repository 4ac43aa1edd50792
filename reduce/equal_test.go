package reduce_test

import (
	"math/rand"
	"slices"
	"testing"

	"cellular/api"
	"cellular/reduce"
)

// checkEqual compares Equal of two trees, in both orders, with the expected result.
func checkEqual(t *testing.T, a, b api.Tree, want bool) {
	t.Helper()
	unchanged(t, []api.Tree{a, b}, func(l []api.Tree) {
		if reduce.Equal(l[0], l[1]) != want || reduce.Equal(l[1], l[0]) != want {
			t.Errorf("Equal of %s and %s is not %v", show(a), show(b), want)
		}
	})
}

// except is the rule that leads to a state for certain states of the neighbourhood, and to what another one leads to for all others.
func except(r rule, in []int, s int) rule {
	return rule{r.begin*2 + 1, func(memory, position, state int) int {
		next := r.read(memory/2, position, state) * 2
		if memory%2 == 1 && state == in[position] {
			next++
		}
		return next
	}, func(memory int) int {
		if memory%2 == 1 {
			return s
		}
		return r.end(memory / 2)
	}}
}

// P13.2: trees that are the same, and trees that lead to the same new states with other nodes.
func TestEqual(t *testing.T) {
	rng := rand.New(rand.NewSource(231))
	for _, drawing := range all {
		l := drawn(drawing)
		for states := 2; states <= api.MaxStates; states++ {
			for _, r := range []rule{always(states - 1), reading(len(l) / 2), summing(states), randomRule(rng, states, len(l))} {
				own := r.tree(states, l)
				checkEqual(t, own, own, true)
				checkEqual(t, own, other(rng, own), true)
				checkEqual(t, other(rng, own), other(rng, own), true)
				checkEqual(t, grown(rng, own, 200), inserted(own, 0, own.Nodes[0]), true)
			}
		}
	}
}

// P13.2: trees that differ in one new state only.
func TestEqualExceptOneState(t *testing.T) {
	rng := rand.New(rand.NewSource(232))
	for _, drawing := range all {
		l := drawn(drawing)
		for states := 2; states <= api.MaxStates; states++ {
			r := randomRule(rng, states, len(l))
			for range 3 {
				in := randomList(rng, states, len(l))
				s := (r.value(in) + 1 + rng.Intn(states-1)) % states
				own, another := r.tree(states, l), except(r, in, s).tree(states, l)
				checkEqual(t, own, another, false)
				checkEqual(t, other(rng, own), other(rng, another), false)
				checkEqual(t, own, except(r, in, r.value(in)).tree(states, l), true)
			}
		}
	}
	for _, list := range everyState(2, 4) {
		for _, another := range everyState(2, 4) {
			checkEqual(t, listed(2, drawn(left), list), listed(2, drawn(left), another), slices.Equal(list, another))
		}
	}
}

// P13.2: random trees, compared by the new states for all states.
func TestEqualRandom(t *testing.T) {
	rng := rand.New(rand.NewSource(233))
	equal := 0
	for range 2000 {
		a, b := randomTree(rng, 2, drawn(left), rng.Intn(8)), randomTree(rng, 2, drawn(left), rng.Intn(8))
		same := slices.Equal(valuesOf(a), valuesOf(b))
		checkEqual(t, a, b, same)
		if same {
			equal++
		}
	}
	if equal == 0 || equal == 2000 {
		t.Errorf("%d pairs of trees are equal", equal)
	}
}

// P13.2: trees with another number of states, or with another neighbourhood.
func TestEqualOthers(t *testing.T) {
	for states := 2; states <= api.MaxStates; states++ {
		for _, r := range []rule{always(0), always(1), reading(0), summing(2)} {
			for more := states; more <= api.MaxStates; more++ {
				checkEqual(t, r.tree(states, drawn(left)), r.tree(more, drawn(left)), more == states)
				checkEqual(t, r.tree(states, drawn(square)), r.tree(more, drawn(square)), more == states)
			}
			for _, a := range all {
				for _, b := range all {
					checkEqual(t, r.tree(states, drawn(a)), r.tree(states, drawn(b)), a == b)
				}
			}
		}
	}
	// The nodes are the same, and one offset of the neighbourhood is not.
	for _, r := range []rule{always(1), reading(4), summing(2)} {
		own := r.tree(2, drawn(moore))
		for _, gone := range own.Hood {
			for _, p := range drawn(square) {
				belongs := func(q api.Point) bool { return q != gone && slices.Contains(own.Hood, q) || q == p }
				l := slices.DeleteFunc(drawn(square), func(q api.Point) bool { return !belongs(q) })
				if len(l) == len(own.Hood) {
					checkEqual(t, own, api.Tree{States: 2, Hood: l, Nodes: own.Nodes}, p == gone)
				}
			}
		}
	}
}

// P13.2: trees of which one or both are not valid.
func TestEqualWrong(t *testing.T) {
	right := []api.Tree{always(0).tree(2, drawn(left)), reading(0).tree(2, drawn(line)), summing(8).tree(8, drawn(square))}
	for _, own := range wrongTrees() {
		checkEqual(t, own, own, false)
		for _, another := range right {
			checkEqual(t, own, another, false)
		}
	}
	wrong := wrongTrees()[:20]
	for _, a := range wrong {
		for _, b := range wrong {
			checkEqual(t, a, b, false)
		}
	}
}

// P13.2: the largest trees, and trees whose nodes are reached on very many ways.
func TestEqualLargest(t *testing.T) {
	rng := rand.New(rand.NewSource(234))
	own := widest(rng, 4096)
	checkEqual(t, own, reordered(rng, own), true)
	another := laidOut(own)
	another.Nodes[0].Next[7] = (another.Nodes[0].Next[7] + 1) % 8
	checkEqual(t, own, another, false)
	sum := summing(8).tree(8, drawn(square))
	checkEqual(t, sum, grown(rng, sum, 4096), true)
	checkEqual(t, grown(rng, sum, 4096), grown(rng, sum, 4096), true)
	checkEqual(t, grown(rng, sum, 4096), except(summing(8), make([]int, 25), 1).tree(8, drawn(square)), false)
}

// checkUses compares Uses with the expected result for each position, and checks that it is false for all other numbers.
func checkUses(t *testing.T, own api.Tree, want func(k int) bool) {
	t.Helper()
	unchanged(t, []api.Tree{own}, func(l []api.Tree) {
		for _, k := range append([]int{len(own.Hood) - 1, len(own.Hood), len(own.Hood) + 1, -len(own.Hood)}, ints...) {
			wanted := k >= 0 && k < len(own.Hood) && want(k)
			if reduce.Uses(l[0], k) != wanted {
				t.Errorf("Uses of %s and %d is not %v", show(own), k, wanted)
			}
		}
	})
}

// decides reports whether there are states of the neighbourhood that differ at a position only and lead to different new states.
func decides(t api.Tree, k int) bool {
	return slices.ContainsFunc(everyState(t.States, len(t.Hood)), func(in []int) bool {
		another := slices.Clone(in)
		another[k] = 0
		return followed(t, in) != followed(t, another)
	})
}

// P13.2: the example of the chapter, all trees of two states and up to three offsets, and random ones.
func TestUses(t *testing.T) {
	rng := rand.New(rand.NewSource(235))
	checkUses(t, made(2, left, node(1, 0, 1), node(1, 0, 1), node(2, 0, 1)), func(k int) bool { return k == 1 })
	for _, drawing := range []string{single, left, line} {
		l := drawn(drawing)
		for _, list := range everyState(2, 1<<len(l)) {
			own := listed(2, l, list)
			checkUses(t, own, func(k int) bool { return decides(own, k) })
			checkUses(t, other(rng, own), func(k int) bool { return decides(own, k) })
		}
	}
	for states := 2; states <= 5; states++ {
		for range 20 {
			own := randomTree(rng, states, drawn(line), rng.Intn(8))
			checkUses(t, own, func(k int) bool { return decides(own, k) })
		}
	}
}

// P13.2: positions that decide only if all other positions have certain states.
func TestUsesRarely(t *testing.T) {
	rng := rand.New(rand.NewSource(236))
	for _, drawing := range all {
		l := drawn(drawing)
		for _, states := range []int{2, 3, 8} {
			in := randomList(rng, states, len(l))
			own := except(always(0), in, 1).tree(states, l)
			checkUses(t, own, func(int) bool { return true })
			checkUses(t, other(rng, own), func(int) bool { return true })
			// One position does not decide even then.
			k := rng.Intn(len(l))
			own = mapped(fixed(except(always(0), in, 1), k, in[k]), []int{1, 0}).tree(states, l)
			checkUses(t, own, func(i int) bool { return i != k })
			checkUses(t, other(rng, own), func(i int) bool { return i != k })
		}
	}
}

// P13.2: positions that decide only if another one has a certain state, and positions that never decide, with many neighbourhoods.
func TestUsesSome(t *testing.T) {
	rng := rand.New(rand.NewSource(237))
	for _, drawing := range all {
		l := drawn(drawing)
		for states := 2; states <= api.MaxStates; states++ {
			checkUses(t, always(1).tree(states, l), func(int) bool { return false })
			checkUses(t, summing(states).tree(states, l), func(int) bool { return true })
			for k := range l {
				checkUses(t, reading(k).tree(states, l), func(i int) bool { return i == k })
			}
			if len(l) < 3 {
				continue
			}
			// The last of three positions decides only if the first one has the greatest state, and the second one the least.
			positions := rng.Perm(len(l))[:3]
			slices.Sort(positions)
			own := picking(states, positions, func(in []int) int {
				if in[0] == states-1 && in[1] == 0 {
					return in[2]
				}
				return 0
			}).tree(states, l)
			checkUses(t, own, func(k int) bool { return slices.Contains(positions, k) })
			checkUses(t, grown(rng, own, 200), func(k int) bool { return slices.Contains(positions, k) })
		}
	}
	own := widest(rng, 4096)
	checkUses(t, own, func(int) bool { return true })
}

// P13.2: a position that decides only at nodes that are not needed.
func TestUsesUnneeded(t *testing.T) {
	checkUses(t, made(2, left, node(1, 0, 1), node(1, 1, 1), node(2, 1, 1)), func(int) bool { return false })
	checkUses(t, made(2, left, node(1, 0, 1), node(1, 1, 1), node(2, 0, 1), node(2, 1, 1)), func(int) bool { return false })
	checkUses(t, made(2, left, node(1, 0, 1), node(1, 1, 1), node(2, 0, 1), node(2, 0, 0)), func(k int) bool { return k == 1 })
	checkUses(t, made(2, single, node(1, 0, 1), node(1, 1, 1)), func(int) bool { return false })
}

// P13.2: trees that are not valid.
func TestUsesWrong(t *testing.T) {
	for _, own := range wrongTrees() {
		checkUses(t, own, func(int) bool { return false })
	}
}
