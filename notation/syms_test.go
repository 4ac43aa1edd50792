package notation_test

import (
	"math"
	"math/rand"
	"slices"
	"strconv"
	"testing"

	"cellular/api"
	"cellular/hood"
	"cellular/notation"
	"cellular/reduce"
	"cellular/symmetry"
	"cellular/tree"
	"cellular/wolfram"
)

// every are all symmetries.
var every = []int{0, 1, 2, 3, 4, 5, 6, 7}

// groups are all groups of symmetries.
var groups = [][]int{
	{0}, {0, 2}, {0, 4}, {0, 5}, {0, 6}, {0, 7}, {0, 1, 2, 3}, {0, 2, 4, 6}, {0, 2, 5, 7}, every,
}

// imageOf returns the image of an offset, turn by turn.
func imageOf(k int, p api.Point) api.Point {
	if k >= 4 {
		p.X = -p.X
	}
	for range k % 4 {
		p.X, p.Y = -p.Y, p.X
	}
	return p
}

// turned returns the states that a neighbourhood has after a symmetry, and whether the symmetry maps the neighbourhood to itself.
func turned(k int, l []api.Point, in []int) ([]int, bool) {
	states := make([]int, len(in))
	for i, p := range l {
		place := slices.Index(l, imageOf(k, p))
		if place < 0 {
			return nil, false
		}
		states[place] = in[i]
	}
	return states, true
}

// isSym reports whether a symmetry leads from each list of states of a neighbourhood to one with the same value.
func isSym(k, states int, l []api.Point, value func(in []int) int) bool {
	for _, in := range everyState(states, len(l)) {
		if other, is := turned(k, l, in); !is || value(other) != value(in) {
			return false
		}
	}
	return true
}

// symsModel returns the symmetries of the rule that leads to what a function returns.
func symsModel(states int, l []api.Point, value func(in []int) int) []int {
	return slices.DeleteFunc(slices.Clone(every), func(k int) bool { return !isSym(k, states, l, value) })
}

// checkSyms compares Syms of a tree with the expected symmetries, and checks that they are a group, if the tree is valid, and that the tree
// is left as it was.
func checkSyms(t *testing.T, own api.Tree, want []int) {
	t.Helper()
	given := laidOut(own)
	got := notation.Syms(given)
	if !slices.Equal(got, want) {
		t.Errorf("Syms of %s is %v, not %v", show(own), got, want)
	}
	if !tree.Same(given, own) || !tree.Same(whole(given), whole(laidOut(own))) {
		t.Errorf("Syms changed the tree %s", show(own))
	}
	if !tree.Right(own) {
		return
	}
	// P16.7: a group contains 0 and all compositions.
	if !slices.Contains(got, 0) {
		t.Errorf("Syms of %s is %v", show(own), got)
	}
	for _, a := range got {
		for _, b := range got {
			if !slices.Contains(got, symmetry.Compose(a, b)) {
				t.Errorf("Syms of %s is %v, which is no group", show(own), got)
			}
		}
	}
}

// checkSymsOf compares Syms with the model, for the rule that leads to what a function returns: for its reduced tree, and for others.
func checkSymsOf(t *testing.T, states int, l []api.Point, value func(in []int) int) {
	t.Helper()
	want := symsModel(states, l, value)
	own := spread(states, l, value)
	checkSyms(t, reduce.Reduce(own), want)
	checkSyms(t, own, want)
	checkSyms(t, withSpare(own, 3), want)
}

// withSpare returns a tree with some nodes ahead of the others that none of them needs.
func withSpare(t api.Tree, n int) api.Tree {
	t = laidOut(t)
	for _, own := range t.Nodes {
		for i := range own.Next {
			if own.Level > 1 {
				own.Next[i] += n
			}
		}
	}
	spare := slices.Repeat([]api.Node{node(1, slices.Repeat([]int{t.States - 1}, t.States)...)}, n)
	t.Nodes = slices.Concat(spare, t.Nodes)
	return t
}

// P16.4: the examples of the chapter, and rules of all kinds.
func TestSymsExamples(t *testing.T) {
	for _, c := range []struct {
		s    string
		want []int
	}{
		{"B3/S23", every}, {"B2/S34H", []int{0, 2, 5, 7}}, {"W90", []int{0, 2, 4, 6}}, {"W110", []int{0, 6}},
		{"B2/S/C3", every}, {"B/SV", every}, {"/2/3V", every}, {"//8H", []int{0, 2, 5, 7}}, {"W0", []int{0, 2, 4, 6}}, {"W30", []int{0, 6}},
		{"T6/2", []int{0, 2, 4, 6}}, {"T777/3", []int{0, 2, 4, 6}}, {rowTable, []int{0, 6}},
		{lines("states 2", "hood hex", "symmetry none"), []int{0, 2, 5, 7}},
		{lines("states 2", "hood hex", "symmetry none", "1 0 0 0 0 0 0 -> 1"), []int{0, 7}},
		{lines("states 2", "hood moore", "symmetry none", "1 1 0 0 0 0 0 0 0 -> 1"), []int{0}},
		{lines("states 2", "hood moore", "symmetry none", "1 1 0 0 0 0 0 1 1 -> 1"), []int{0, 2}},
		{lines("states 2", "hood moore", "symmetry none", "1 1 1 0 0 0 0 0 0 -> 1"), []int{0, 4}},
		{lines("states 2", "hood moore", "symmetry none", "1 0 0 1 0 0 1 0 0 -> 1"), []int{0, 6}},
		{lines("states 2", "hood moore", "symmetry none", "0 0 1 0 0 0 0 0 0 -> 1"), []int{0, 5}},
		{lines("states 2", "hood moore", "symmetry none", "1 0 0 0 0 0 0 0 0 -> 1"), []int{0, 7}},
		{lines("states 2", "hood moore", "symmetry rotate", "1 1 0 0 0 0 0 0 0 -> 1"), []int{0, 1, 2, 3}},
		{lines("states 2", "hood moore", "symmetry reflect", "1 1 0 0 0 0 0 0 0 -> 1"), every},
		{lines("states 3", "hood neumann", "symmetry none", "1 0 0 0 2 -> 1"), []int{0, 4}},
		{lines("states 3", "hood neumann", "symmetry none", "1 2 0 2 1 -> 1"), []int{0, 2, 4, 6}},
		{lines("states 3", "hood neumann", "symmetry permute", "1 2 0 0 0 -> 1"), every},
	} {
		own, e := notation.Parse(c.s)
		if e != api.OK {
			t.Errorf("Parse(%s) is the error %d", quote(c.s), e)
		}
		checkSyms(t, own, c.want)
	}
}

// P16.7: the symmetries of rules by counts are those of their neighbourhoods.
func TestSymsCounts(t *testing.T) {
	t.Parallel()
	rng := rand.New(rand.NewSource(167))
	for letter, drawing := range usual {
		for states := 2; states <= api.MaxStates; states++ {
			for _, x := range someTotals(rng, letter, states) {
				own, _ := notation.Parse(notationsOf(letter, x)[0])
				checkSyms(t, own, hood.Syms(drawn(drawing)))
			}
		}
	}
}

// P16.8: all elementary rules.
func TestSymsElementary(t *testing.T) {
	number := 0
	for n := range 256 {
		want := []int{0, 6}
		if mirror, _ := wolfram.Mirror(n); mirror == n {
			want = []int{0, 2, 4, 6}
			number++
		}
		own, _ := notation.Parse("W" + strconv.Itoa(n))
		checkSyms(t, own, want)
		bits := func(in []int) int { return n >> (in[0]*4 + in[1]*2 + in[2]) & 1 }
		if !slices.Equal(symsModel(2, drawn(line), bits), want) {
			t.Errorf("the model has the symmetries %v", symsModel(2, drawn(line), bits))
		}
	}
	if number != 64 {
		t.Errorf("%d elementary rules are their mirror images", number)
	}
}

// P16.4, P16.7: rules with two states that lead to 1 for some images of a list of states all of whose images are different: with each
// selection of them, so that each group is the one of all symmetries of a rule.
func TestSymsImages(t *testing.T) {
	t.Parallel()
	for _, c := range []struct {
		drawing string
		in      []int
		groups  [][]int
	}{
		{moore, []int{1, 1, 0, 0, 0, 0, 0, 0, 0}, groups}, {neumann, []int{1, 2, 0, 0, 0}, groups},
		{swirl, []int{1, 2, 0, 0, 0}, [][]int{{0}, {0, 2}, {0, 1, 2, 3}}},
	} {
		l, states := drawn(c.drawing), slices.Max(c.in)+1
		var images [][]int
		for k := range 8 {
			if in, is := turned(k, l, c.in); is {
				images = append(images, in)
			}
		}
		found := map[string]bool{}
		for bits := range 1 << len(images) {
			value := func(in []int) int {
				i := slices.IndexFunc(images, func(l []int) bool { return slices.Equal(l, in) })
				if i >= 0 && bits>>i&1 == 1 {
					return 1
				}
				return 0
			}
			checkSymsOf(t, states, l, value)
			found[joined(symsModel(states, l, value))] = true
		}
		for _, group := range c.groups {
			if !found[joined(group)] || len(found) != len(c.groups) {
				t.Errorf("the symmetries of rules with the neighbourhood %s are %v", c.drawing, found)
			}
		}
	}
}

// P16.4, P16.7: random rules with many neighbourhoods and numbers of states. Lists of states that symmetries of a group map to each other
// have the same new states.
func TestSymsRandom(t *testing.T) {
	t.Parallel()
	rng := rand.New(rand.NewSource(168))
	found := map[string]bool{}
	for _, c := range []struct {
		drawing string
		states  []int
	}{
		{single, []int{2, 8}}, {left, []int{2, 3, 8}}, {pair, []int{2, 3, 8}}, {line, []int{2, 3, 5}}, {column, []int{2, 3, 5}}, {slope, []int{2, 4}},
		{corner, []int{2, 3, 5}}, {neumann, []int{2, 3}}, {corners, []int{2, 3}}, {hex, []int{2}}, {swirl, []int{2, 3}}, {moore, []int{2}},
	} {
		l := drawn(c.drawing)
		for _, states := range c.states {
			for _, group := range groups {
				values := map[string]int{}
				value := func(in []int) int {
					first := firstImage(group, l, in)
					if _, is := values[first]; !is {
						values[first] = rng.Intn(states)
					}
					return values[first]
				}
				checkSymsOf(t, states, l, value)
				found[joined(symsModel(states, l, value))] = true
			}
		}
	}
	if len(found) != len(groups) {
		t.Errorf("the symmetries are %v", found)
	}
}

// firstImage returns the least of the texts of the lists to which symmetries lead from a list of states.
func firstImage(group []int, l []api.Point, in []int) string {
	first := joined(in)
	for _, k := range group {
		if other, is := turned(k, l, in); is {
			first = min(first, joined(other))
		}
	}
	return first
}

// P16.4: constants have the symmetries of their neighbourhoods, even if nothing is read, and the state of a position those that map the
// position to itself.
func TestSymsOfPositions(t *testing.T) {
	for _, drawing := range []string{single, left, pair, line, column, slope, corner, neumann, corners, hex, moore, swirl, square} {
		l := drawn(drawing)
		for _, states := range []int{2, 3, 8} {
			for s := range states {
				own, _ := tree.Constant(states, l, s)
				checkSyms(t, own, hood.Syms(l))
			}
			for k, p := range l {
				own, _ := tree.Read(states, l, k)
				checkSyms(t, own, slices.DeleteFunc(hood.Syms(l), func(sym int) bool { return imageOf(sym, p) != p }))
			}
		}
	}
}

// alike returns the tree that leads to 1 if two positions have the same state, and to 0 otherwise.
func alike(states int, l []api.Point, a, b int) api.Tree {
	by, _ := tree.Read(states, l, a)
	other, _ := tree.Read(states, l, b)
	var list []api.Tree
	for s := range states {
		to := make([]int, states)
		to[s] = 1
		is, _ := reduce.Map(other, to)
		list = append(list, is)
	}
	own, _ := reduce.Choose(by, list)
	return own
}

// both returns the tree that leads to 1 if two trees do, which lead to 0 otherwise.
func both(a, b api.Tree) api.Tree {
	zero, _ := tree.Constant(a.States, a.Hood, 0)
	own, _ := reduce.Choose(a, append([]api.Tree{zero, b}, slices.Repeat([]api.Tree{zero}, a.States-2)...))
	return own
}

// P16.4: trees with the most levels. Those that compare the first and the last state of each row have too many nodes after a quarter turn,
// if there are more than two states.
func TestSymsTooManyNodes(t *testing.T) {
	l := drawn(square)
	for _, states := range []int{2, 3, 8} {
		rows := alike(states, l, 0, 4)
		for y := 1; y < 5; y++ {
			rows = both(rows, alike(states, l, 5*y, 5*y+4))
		}
		checkSyms(t, rows, []int{0, 2, 4, 6})
		if _, e := reduce.Turn(1, rows); (e == api.ErrSize) != (states > 2) {
			t.Errorf("with %d states a turn leads to the error %d", states, e)
		}
		checkSyms(t, both(rows, alike(states, l, 0, 1)), []int{0})
		checkSyms(t, both(rows, alike(states, l, 10, 11)), []int{0, 6})
		checkSyms(t, both(rows, alike(states, l, 7, 17)), []int{0, 2, 4, 6})
		checkSyms(t, alike(states, l, 0, 24), []int{0, 2, 5, 7})
	}
}

// P16.4: trees with as many nodes as a tree may have, and with one more.
func TestSymsMostNodes(t *testing.T) {
	for s, want := range map[string][]int{"B3/S23": every, "B2/S/C8H": {0, 2, 5, 7}, "W110": {0, 6}, "T777/3": {0, 2, 4, 6}} {
		own, _ := notation.Parse(s)
		checkSyms(t, withSpare(own, api.MaxTree-len(own.Nodes)), want)
		checkSyms(t, withSpare(own, api.MaxTree-len(own.Nodes)+1), nil)
	}
}

// wrongTrees returns trees that are not valid: in each of them one condition is broken.
func wrongTrees() []api.Tree {
	right := []api.Node{node(1, 0, 0), node(2, 0, 0), node(3, 1, 1)}
	list := []api.Tree{
		{}, {States: 2}, {States: 2, Hood: drawn(line)}, {States: 2, Hood: drawn(line), Nodes: []api.Node{}},
		// Numbers of states, mostly with as many elements.
		made(0, single, node(1)), made(1, single, node(1, 0)), made(9, single, node(1, 0, 0, 0, 0, 0, 0, 0, 0, 0)), made(-1, single, node(1)),
		made(3, line, right...), made(math.MaxInt, line, right...), made(math.MinInt, line, right...), made(1<<32+2, line, right...),
		// Neighbourhoods.
		{States: 2, Hood: nil, Nodes: right}, {States: 2, Hood: []api.Point{}, Nodes: right},
		{States: 2, Hood: []api.Point{{X: -1}, {}, {}}, Nodes: right}, {States: 2, Hood: []api.Point{{X: 1}, {}, {X: -1}}, Nodes: right},
		{States: 2, Hood: []api.Point{{Y: 1}, {}, {Y: -1}}, Nodes: right}, {States: 2, Hood: []api.Point{{X: -3}, {}, {X: 3}}, Nodes: right},
		{States: 2, Hood: []api.Point{{Y: -3}, {}, {Y: 3}}, Nodes: right},
		{States: 2, Hood: []api.Point{{X: math.MinInt}, {}, {X: math.MaxInt}}, Nodes: right},
		made(2, pair, right...), made(2, neumann, right...),
		// Levels.
		made(2, single, node(0, 0, 0)), made(2, single, node(2, 0, 0)), made(2, single, node(-1, 0, 0)), made(2, single, node(math.MaxInt, 0, 0)),
		made(2, line, node(0, 0, 0), node(2, 0, 0), node(3, 1, 1)), made(2, line, node(1, 0, 0), node(1, 0, 0), node(3, 1, 1)),
		made(2, line, node(1, 0, 0), node(2, 0, 0), node(4, 1, 1)), made(2, line, node(1, 0, 0), node(2, 0, 0), node(2, 0, 0)),
		made(2, line, node(0, 0, 0), node(1, 0, 0), node(2, 1, 1), node(3, 2, 2)),
		made(2, line, node(1, 0, 0), node(2, 0, 0), node(3, 1, 1), node(1, 0, 0)),
		made(2, line, node(1, 0, 0), node(2, 0, 0), node(3, 1, 1), node(4, 2, 2)),
		// Numbers of elements.
		made(2, line, node(1, 0), node(2, 0, 0), node(3, 1, 1)), made(2, line, node(1, 0, 0, 0), node(2, 0, 0), node(3, 1, 1)),
		made(2, line, node(1, 0, 0), node(2), node(3, 1, 1)), made(2, line, node(1, 0, 0), node(2, 0, 0, 0), node(3, 1, 1)),
		made(2, line, node(1, 0, 0), node(2, 0, 0), node(3, 1)), made(2, line, node(1, 0, 0), node(2, 0, 0), node(3, 1, 1, 1)),
		// Elements of the level 1.
		made(2, line, node(1, 0, 2), node(2, 0, 0), node(3, 1, 1)), made(2, line, node(1, -1, 0), node(2, 0, 0), node(3, 1, 1)),
		made(8, single, node(1, 0, 1, 2, 3, 4, 5, 6, 8)), made(2, single, node(1, math.MinInt, 0)), made(2, single, node(1, 1<<32, 0)),
		// Elements of higher levels: numbers of no nodes, of the node itself, of later ones, and of ones with other levels.
		made(2, line, node(1, 0, 0), node(2, 0, -1), node(3, 1, 1)), made(2, line, node(1, 0, 0), node(2, 0, 1), node(3, 1, 1)),
		made(2, line, node(1, 0, 0), node(2, 0, 2), node(3, 1, 1)), made(2, line, node(1, 0, 0), node(2, 0, 3), node(3, 1, 1)),
		made(2, line, node(1, 0, 0), node(2, 2, 0), node(1, 0, 0), node(3, 1, 1)), made(2, line, node(1, 0, 0), node(2, 0, 0), node(3, 1, 0)),
		made(2, line, node(1, 0, 0), node(2, 0, 0), node(2, 1, 1), node(3, 1, 1)),
		made(2, line, node(1, 0, 0), node(2, 0, math.MaxInt), node(3, 1, 1)),
	}
	// More offsets than a neighbourhood may have, and more nodes than a tree may have.
	long := api.Tree{States: 2, Hood: append(drawn(square), api.Point{Y: 3})}
	for i := range long.Hood {
		long.Nodes = append(long.Nodes, node(i+1, max(0, i-1), max(0, i-1)))
	}
	return append(list, long, made(2, single, slices.Repeat([]api.Node{node(1, 0, 1)}, api.MaxTree+1)...))
}

// P16.4: trees that are not valid have no symmetries.
func TestSymsWrong(t *testing.T) {
	for i, own := range wrongTrees() {
		if tree.Right(own) {
			t.Errorf("the tree %d, %s, is valid", i, show(own))
		}
		checkSyms(t, own, nil)
	}
}

// P16.4, and LANGUAGE.md, rule 7: the symmetries are new memory.
func TestSymsAreNew(t *testing.T) {
	for _, s := range []string{"B3/S23", "B2/S34H", "W90", "W110", rowTable} {
		own, _ := notation.Parse(s)
		given := laidOut(own)
		got := notation.Syms(given)
		want := slices.Clone(got)
		fill(got, 99)
		if !tree.Same(whole(given), whole(laidOut(own))) {
			t.Errorf("the symmetries share memory with the tree of %s", quote(s))
		}
		checkSyms(t, own, want)
		got = notation.Syms(given)
		for i := range given.Nodes {
			fill(given.Nodes[i].Next, 98)
		}
		fill(given.Hood, api.Point{X: 98})
		fill(given.Nodes, node(98))
		if !slices.Equal(got, want) {
			t.Errorf("with the tree of %s the symmetries become %v", quote(s), got)
		}
	}
}
