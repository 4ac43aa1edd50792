package reduce_test

import (
	"math/rand"
	"slices"
	"testing"

	"cellular/algebra"
	"cellular/api"
	"cellular/reduce"
	"cellular/symmetry"
)

// checkTurn compares Turn with the expected results.
func checkTurn(t *testing.T, k int, own, want api.Tree, wanted api.Errno) {
	t.Helper()
	unchanged(t, []api.Tree{own}, func(l []api.Tree) {
		got, e := reduce.Turn(k, l[0])
		checkTree(t, got, e, want, wanted, "Turn by", k, "of", own)
	})
}

// turnedList returns the turned rule of a valid tree, by the new states for all states of the neighbourhood.
func turnedList(k int, own api.Tree) api.Tree {
	images, at := imagesOf(k, own.Hood)
	var values []int
	for _, in := range everyState(own.States, len(images)) {
		var old []int
		for i := range own.Hood {
			old = append(old, in[at[i]])
		}
		values = append(values, followed(own, old))
	}
	return listed(own.States, images, values)
}

// picked returns the tree of a rule that depends on some positions only, and the turned tree.
func picked(k, states int, l []api.Point, positions []int, value func(in []int) int) (own, turned api.Tree) {
	images, at := imagesOf(k, l)
	var behind []int
	for _, p := range positions {
		behind = append(behind, at[p])
	}
	order := slices.Sorted(slices.Values(behind))
	return picking(states, positions, value).tree(states, l), picking(states, order, func(in []int) int {
		var old []int
		for _, p := range behind {
			old = append(old, in[slices.Index(order, p)])
		}
		return value(old)
	}).tree(states, images)
}

// P13.6: trees node by node.
func TestTurnNodes(t *testing.T) {
	second := []api.Node{node(1, 0, 1), node(1, 0, 1), node(2, 0, 1)}
	first := []api.Node{node(1, 0, 0), node(1, 1, 1), node(2, 0, 1)}
	reads := []api.Node{node(1, 0, 1), node(2, 0, 0)}
	up, right, down := ".o. .o. ...", "... .oo ...", "... .o. .o."
	for k, c := range []struct {
		drawing string
		nodes   []api.Node
	}{{left, reads}, {up, reads}, {right, first}, {down, first}, {right, first}, {down, first}, {left, reads}, {up, reads}} {
		// The fifth one is the example of the chapter.
		checkTurn(t, k, made(2, left, second...), made(2, c.drawing, c.nodes...), api.OK)
		checkTurn(t, k, made(2, left, reads...), made(2, c.drawing, c.nodes...), api.OK)
	}
	for k := range 8 {
		checkTurn(t, k, made(3, single, node(1, 0, 1, 2), node(1, 2, 0, 1)), made(3, single, node(1, 2, 0, 1)), api.OK)
	}
	// A rule that leads to 1 for the states 0 and 1 only.
	below := []api.Node{node(1, 0, 1), node(1, 0, 0), node(2, 0, 1)}
	above := []api.Node{node(1, 0, 0), node(1, 1, 0), node(2, 0, 1)}
	for k, c := range []struct {
		drawing string
		nodes   []api.Node
	}{{left, below}, {up, below}, {right, above}, {down, above}, {right, above}, {down, above}, {left, below}, {up, below}} {
		checkTurn(t, k, made(2, left, below...), made(2, c.drawing, c.nodes...), api.OK)
	}
}

// P13.6: the offset to which each symmetry maps (2, 1).
func TestTurnOffsets(t *testing.T) {
	for k, p := range []api.Point{
		{X: 2, Y: 1}, {X: -1, Y: 2}, {X: -2, Y: -1}, {X: 1, Y: -2}, {X: -2, Y: 1}, {X: -1, Y: -2}, {X: 2, Y: -1}, {X: 1, Y: 2},
	} {
		own, want := reading(0).tree(3, []api.Point{{X: 2, Y: 1}}), reading(0).tree(3, []api.Point{p})
		checkTurn(t, k, own, want, api.OK)
	}
}

// P13.6, P13.7: random trees with few offsets, and the new states for all states of the neighbourhood, for each symmetry.
func TestTurnValues(t *testing.T) {
	rng := rand.New(rand.NewSource(631))
	for _, drawing := range tiny {
		l := drawn(drawing)
		for states := 2; states <= api.MaxStates; states++ {
			for k := range 8 {
				own := randomTree(rng, states, l, rng.Intn(30))
				want := turnedList(k, own)
				checkTurn(t, k, own, want, api.OK)
				checkTurn(t, k, other(rng, own), want, api.OK)
			}
		}
	}
}

// P13.6, P13.7: random trees with more offsets and fewer states. Many turned trees have more nodes than the trees.
func TestTurnMoreValues(t *testing.T) {
	rng := rand.New(rand.NewSource(632))
	more := 0
	for _, c := range []struct {
		drawing string
		states  int
	}{{row, 3}, {neumann, 3}, {row, 4}, {hex, 2}, {ring, 2}, {moore, 2}, {hex, 3}} {
		l := drawn(c.drawing)
		for k := range 8 {
			own := reduced(randomTree(rng, c.states, l, 20*len(l)))
			want, wanted := limited(turnedList(k, own))
			if len(want.Nodes) > len(own.Nodes) {
				more++
			}
			checkTurn(t, k, own, want, wanted)
		}
	}
	if more < 10 {
		t.Errorf("%d turned trees have more nodes", more)
	}
}

// P13.6: rules that depend on some positions, with many neighbourhoods: some that a symmetry leaves as they are, some that it puts in
// another order, and some that it changes; with a centre and without one.
func TestTurnRules(t *testing.T) {
	rng := rand.New(rand.NewSource(633))
	for _, drawing := range all {
		l := drawn(drawing)
		for _, states := range []int{2, 3, 8} {
			for k := range 8 {
				images, _ := imagesOf(k, l)
				checkTurn(t, k, always(1).tree(states, l), always(1).tree(states, images), api.OK)
				checkTurn(t, k, summing(states).tree(states, l), summing(states).tree(states, images), api.OK)
				for _, number := range []int{1, 2, 3} {
					positions := rng.Perm(len(l))[:min(number, len(l))]
					slices.Sort(positions)
					values := randomList(rng, states, 512)
					own, want := picked(k, states, l, positions, func(in []int) int {
						n := 0
						for _, s := range in {
							n = n*states + s
						}
						return values[n]
					})
					want, wanted := limited(want)
					checkTurn(t, k, own, want, wanted)
					checkTurn(t, k, other(rng, own), want, wanted)
				}
			}
		}
	}
}

// P13.6: each position of the largest neighbourhood.
func TestTurnPositions(t *testing.T) {
	for k := range 8 {
		l := drawn(square)
		images, at := imagesOf(k, l)
		for i := range l {
			checkTurn(t, k, reading(i).tree(3, l), reading(at[i]).tree(3, images), api.OK)
		}
	}
}

// P13.6: any number stands for its remainder.
func TestTurnNumbers(t *testing.T) {
	rng := rand.New(rand.NewSource(634))
	for _, drawing := range []string{left, apart, neumann, hex} {
		own := randomRule(rng, 2, len(drawn(drawing))).tree(2, drawn(drawing))
		var turned []api.Tree
		for k := range 8 {
			turned = append(turned, turnedList(k, own))
		}
		for _, k := range ints {
			checkTurn(t, k, own, turned[(k%8+8)%8], api.OK)
		}
		for k := range 100 {
			checkTurn(t, k, own, turned[k%8], api.OK)
			checkTurn(t, k-96, own, turned[k%8], api.OK)
		}
	}
}

// P13.6: turned trees of exactly MaxTree nodes, of fewer and of more. The trees have far fewer.
func TestTurnSizes(t *testing.T) {
	for _, c := range []struct {
		drawing       string
		limit, nodes  int
		others, turns []int // The symmetries that read the states in the same order, and those that read them in reverse.
	}{
		{row, 3579, 4095, []int{0}, []int{2}}, {row, 3580, 4096, []int{0, 1, 6, 7}, []int{2, 3, 4, 5}},
		{row, 3581, 4097, []int{0, 1, 6, 7}, []int{2, 3, 4, 5}}, {row, 4095, 4681, []int{6}, []int{4, -4, 10}},
		{square, 3561, 4095, nil, []int{2}}, {square, 3562, 4096, []int{8}, []int{2, -6}}, {square, 3563, 4097, []int{0}, []int{2, 10}},
	} {
		for _, k := range append(c.others, c.turns...) {
			own, turned := picked(k, 8, drawn(c.drawing), []int{0, 1, 2, 3, 4}, func(in []int) int {
				return digit([]int{in[4], in[3], in[2], in[1]}, in[0], c.limit)
			})
			if len(own.Nodes) > 300 || (len(turned.Nodes) == c.nodes) != slices.Contains(c.turns, k) {
				t.Errorf("a rule has %d nodes, and after a turn by %d it has %d", len(own.Nodes), k, len(turned.Nodes))
			}
			want, wanted := limited(turned)
			checkTurn(t, k, own, want, wanted)
		}
	}
}

// paired is the rule that leads to 1 if two columns that are side by side have the same states in each row, and to 0 otherwise. It reads
// the rows one after the other.
func paired(column int) rule {
	return rule{0, func(memory, position, state int) int {
		switch {
		case position%5 == column && memory == 0:
			return state + 1
		case position%5 == column+1 && memory == state+1:
			return 0
		case position%5 == column+1:
			return -1
		}
		return memory
	}, func(memory int) int { return memory + 1 }}
}

// pairedRows is the rule that leads to 1 if a row and the next one have the same states, and to 0 otherwise.
func pairedRows(states, row int) rule {
	return rule{0, func(memory, position, state int) int {
		switch {
		case position/5 == row:
			return memory*states + state
		case position/5 == row+1 && memory >= 0:
			remain := 1
			for range 4 - position%5 {
				remain *= states
			}
			if memory/remain == state {
				return memory % remain
			}
			return -1
		}
		return memory
	}, func(memory int) int { return memory + 1 }}
}

// P13.6: two columns are compared, which are side by side. After a quarter turn a whole row is read before the first state of the other.
func TestTurnPairs(t *testing.T) {
	l := drawn(square)
	for states := 2; states <= api.MaxStates; states++ {
		own := paired(1).tree(states, l)
		if len(own.Nodes) > 200 {
			t.Errorf("the tree of the pairs has %d nodes", len(own.Nodes))
		}
		for k, r := range []rule{
			paired(1), pairedRows(states, 1), paired(2), pairedRows(states, 2), paired(2), pairedRows(states, 2), paired(1), pairedRows(states, 1),
		} {
			want, wanted := limited(r.tree(states, l))
			checkTurn(t, k, own, want, wanted)
			if (wanted == api.ErrSize) != (k%2 == 1 && states > 4) {
				t.Errorf("with %d states the tree that was turned by %d has %d nodes", states, k, len(want.Nodes))
			}
		}
	}
}

// P13.6: trees with the greatest numbers of states, of levels and of nodes.
func TestTurnLargest(t *testing.T) {
	rng := rand.New(rand.NewSource(635))
	own, few := widest(rng, 4096), widest(rng, 2000)
	for _, k := range []int{0, 8, -8} {
		checkTurn(t, k, own, own, api.OK)
		checkTurn(t, k, grown(rng, few, 4096), few, api.OK)
	}
	for k := 1; k < 8; k++ {
		if prefixes(rng, k, own) <= 4096 {
			t.Errorf("the tree that was turned by %d may be small enough", k)
		}
		checkTurn(t, k, own, api.Tree{}, api.ErrSize)
	}
}

// prefixes returns a number of nodes that the turned tree of a tree with eight states has at least: the number of lists of up to four
// states, read first, after which there are different new states.
func prefixes(rng *rand.Rand, k int, own api.Tree) int {
	_, at := imagesOf(k, own.Hood)
	number := 0
	for n := range 5 {
		different := map[string]bool{}
		behind := randomList(rng, 8, 20*len(at))
		for _, first := range everyState(8, n) {
			var values []byte
			for in := range slices.Chunk(behind, len(at)) {
				copy(in, first)
				old := make([]int, len(at))
				for i, p := range at {
					old[i] = in[p]
				}
				values = append(values, byte(followed(own, old)))
			}
			different[string(values)] = true
		}
		number += len(different)
	}
	return number
}

// P13.6, and rule 1 for all calls: five positions tell which of eight positions before them or of eight behind them leads to the new state.
// The tree has a node for each of the states of the first ones, the turned tree for each of the states of the last ones, and there are
// different new states for all of them together.
func TestTurnManyNodes(t *testing.T) {
	l := drawn("ooooo ooooo ooooo ooooo o....")
	own := rule{0, func(memory, position, state int) int {
		switch {
		case position == 8 && state == 1:
			return 1
		case position < 12:
			return memory*2 + state
		case position > 12:
			return found(memory, position-13, state)
		}
		memory = memory*2 + state
		return indexed(memory%16, memory/16%2 == 1, memory>>5)
	}, same}
	turned := rule{0, func(memory, position, state int) int {
		switch {
		case position < 12:
			return memory*2 + state
		case position > 12:
			return found(memory, 20-position, state)
		}
		// The index was read from its lowest bit on, and the states from the last one on.
		index, states := memory/8%2+memory/4%2*2+memory/2%2*4+memory%2*8, 0
		for i := range 8 {
			states = states*2 + memory>>(4+i)%2
		}
		return indexed(index, state == 0, states)
	}, same}
	images, _ := imagesOf(2, l)
	checkTurn(t, 2, own.tree(2, l), turned.tree(2, images), api.OK)
	checkTurn(t, 0, own.tree(2, l), own.tree(2, l), api.OK)
	checkTurn(t, 2, turned.tree(2, images), own.tree(2, l), api.OK)
}

// indexed returns what is remembered when an index is known: the state with this index of eight ones that were read already, or, if it is
// one of those that are read later, the index plus 2.
func indexed(index int, later bool, states int) int {
	switch {
	case index > 7:
		return 0
	case later:
		return index + 2
	}
	return states >> (7 - index) % 2
}

// found returns what is remembered after one of the eight states that were not read yet, by its own index.
func found(memory, index, state int) int {
	if memory == index+2 {
		return state
	}
	return memory
}

// P13.9: a turn and then the inverse turn.
func TestTurnBack(t *testing.T) {
	rng := rand.New(rand.NewSource(636))
	for _, drawing := range all {
		l := drawn(drawing)
		for _, states := range []int{2, 3, 8} {
			for k := range 8 {
				few := grown(rng, remembering(rng, 2, states, len(l)).tree(states, l), 100)
				for _, own := range []api.Tree{few, randomTree(rng, states, l, 3*len(l))} {
					if turned, e := reduce.Turn(k, own); e == api.OK {
						checkTurn(t, symmetry.Inverse(k), turned, reduced(own), api.OK)
					} else {
						checkTurn(t, k, own, api.Tree{}, api.ErrSize)
					}
				}
			}
		}
	}
}

// P13.9, P13.6: turns one after the other are the turn by their composition.
func TestTurnTwice(t *testing.T) {
	rng := rand.New(rand.NewSource(637))
	for _, drawing := range small {
		l := drawn(drawing)
		own := randomTree(rng, 3, l, 40)
		for a := range 8 {
			for b := range 8 {
				turned, _ := reduce.Turn(a, own)
				checkTurn(t, b, turned, turnedList(symmetry.Compose(a, b), own), api.OK)
			}
		}
	}
}

// next returns the next generation of a pattern, for a quiet rule.
func next(own api.Tree, p api.Pattern) api.Pattern {
	states := map[api.Point]int{}
	for _, c := range p {
		states[api.Point{X: c.X, Y: c.Y}] = c.S
	}
	var after api.Pattern
	for y := -20; y <= 20; y++ {
		for x := -20; x <= 20; x++ {
			var in []int
			for _, o := range own.Hood {
				in = append(in, states[api.Point{X: x + o.X, Y: y + o.Y}])
			}
			if s := followed(own, in); s > 0 {
				after = append(after, api.Cell{X: x, Y: y, S: s})
			}
		}
	}
	return after
}

// P13.9: patterns that are turned and then evolved by the turned rule, and patterns that are evolved and then turned.
func TestTurnPatterns(t *testing.T) {
	rng := rand.New(rand.NewSource(638))
	changes := 0
	for _, drawing := range all {
		l := drawn(drawing)
		for _, states := range []int{2, 3, 8} {
			zeros := make([]int, len(l))
			own := except(remembering(rng, 2, states, len(l)), zeros, 0).tree(states, l)
			var p api.Pattern
			for y := -4; y <= 2; y++ {
				for x := -2; x <= 5; x++ {
					if s := rng.Intn(2 * states); s > 0 && s < states {
						p = append(p, api.Cell{X: x, Y: y, S: s})
					}
				}
			}
			for k := range 8 {
				turned, e := reduce.Turn(k, own)
				if e != api.OK {
					continue
				}
				before, _ := algebra.Turn(k, p)
				after, _ := algebra.Turn(k, next(own, p))
				if got := next(turned, before); !slices.Equal(got, after) {
					t.Errorf("%s, turned by %d, leads to %v, not to %v", show(own), k, got, after)
				}
				if len(after) > 0 && !slices.Equal(after, before) {
					changes++
				}
			}
		}
	}
	if changes < 100 {
		t.Errorf("only %d patterns change", changes)
	}
}

// P13.6: trees that are not valid.
func TestTurnWrong(t *testing.T) {
	for _, own := range wrongTrees() {
		for k := range 8 {
			checkTurn(t, k, own, api.Tree{}, api.ErrRule)
		}
		checkTurn(t, ints[0], own, api.Tree{}, api.ErrRule)
		checkTurn(t, ints[len(ints)-1], own, api.Tree{}, api.ErrRule)
	}
}

// P13.6, and LANGUAGE.md, rule 7: the result is new memory.
func TestTurnedIsNew(t *testing.T) {
	rng := rand.New(rand.NewSource(639))
	for _, drawing := range all {
		l := drawn(drawing)
		for _, states := range []int{2, 3, 8} {
			for k := range 8 {
				for _, r := range []rule{always(1), reading(rng.Intn(len(l))), summing(states)} {
					checkNew(t, []api.Tree{r.tree(states, l)}, func(l []api.Tree) (api.Tree, api.Errno) { return reduce.Turn(k, l[0]) })
				}
			}
		}
	}
}
