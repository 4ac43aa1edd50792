package tabletree_test

import (
	"fmt"
	"math"
	"math/rand"
	"slices"
	"strings"
	"testing"

	"cellular/api"
	"cellular/ruletable"
	"cellular/tabletree"
	"cellular/tree"
)

// reduced returns the reduced tree of a valid tree: nodes that lead to the same new states are made equal from the first node on; then a
// walk numbers them.
func reduced(own api.Tree) api.Tree {
	numbers, firsts := map[string]int{}, make([]int, len(own.Nodes))
	for i, n := range own.Nodes {
		n.Next = slices.Clone(n.Next)
		for k, e := range n.Next {
			if n.Level > 1 {
				n.Next[k] = firsts[e]
			}
		}
		text := fmt.Sprint(n)
		if _, is := numbers[text]; !is {
			numbers[text] = i
		}
		firsts[i] = numbers[text]
	}
	t := api.Tree{States: own.States, Hood: slices.Clone(own.Hood)}
	finished := map[int]int{}
	var walk func(i int) int
	walk = func(i int) int {
		i = firsts[i]
		if number, is := finished[i]; is {
			return number
		}
		n := node(own.Nodes[i].Level)
		for _, e := range own.Nodes[i].Next {
			if n.Level > 1 {
				e = walk(e)
			}
			n.Next = append(n.Next, e)
		}
		finished[i] = len(t.Nodes)
		t.Nodes = append(t.Nodes, n)
		return finished[i]
	}
	walk(len(own.Nodes) - 1)
	return t
}

// isLeftOut reports whether a table has no row with elements and a new state, because it leads to this new state without it.
func isLeftOut(l []api.Point, ins []int, out int) bool {
	for i, p := range l {
		if p == (api.Point{}) {
			return ins[i] == out
		}
	}
	return out == 0
}

// rowsOfList returns the rows of the tree with a list of new states.
func rowsOfList(states int, l []api.Point, list []int) []api.Row {
	var rows []api.Row
	var walk func(ins, list []int)
	walk = func(ins, list []int) {
		if len(ins) == len(l) {
			if !isLeftOut(l, ins, list[0]) {
				rows = append(rows, api.Row{Ins: slices.Clone(ins), Out: list[0]})
			}
			return
		}
		parts := slices.Collect(slices.Chunk(list, len(list)/states))
		if !slices.ContainsFunc(parts, func(part []int) bool { return !slices.Equal(part, parts[0]) }) {
			walk(append(slices.Clone(ins), -1-len(ins)), parts[0])
			return
		}
		for s, part := range parts {
			walk(append(slices.Clone(ins), s), part)
		}
	}
	walk(nil, list)
	return rows
}

// tableWith returns the table with the states and the neighbourhood of a tree and with rows, or the zero value and ErrSize if these are too
// many.
func tableWith(own api.Tree, rows []api.Row) (api.Table, api.Errno) {
	if len(rows) > 400 {
		return api.Table{}, api.ErrSize
	}
	t := api.Table{States: own.States, Sym: 0, Hood: own.Hood, Rows: rows}
	for range own.Hood {
		t.Vars = append(t.Vars, []int{0, 1, 2, 3, 4, 5, 6, 7}[:own.States])
	}
	return t, api.OK
}

// checkTable compares Table of a valid tree with the table with some rows, checks that it leaves the tree as it was, and compares the table
// with the tree.
func checkTable(t *testing.T, own api.Tree, rows []api.Row) {
	t.Helper()
	want, wanted := tableWith(own, rows)
	given := laidTree(own)
	got, e := tabletree.Table(given)
	if !sameTree(given, own) || !sameTree(wholeTree(given), wholeTree(laidTree(own))) {
		t.Errorf("Table changed the tree %s", showTree(own))
	}
	if !sameTable(got, want) || e != wanted {
		t.Errorf("Table of %s is %s with the error %d, not %s with %d", showTree(own), show(got), e, show(want), wanted)
	}
	if e != api.OK {
		return
	}
	if !ruletable.Right(got) {
		t.Errorf("Table of %s is %s, which is not valid", showTree(own), show(got))
	}
	if isSmall(own.States, len(own.Hood)) {
		back, e := tabletree.Tree(got)
		checkTree(t, back, e, reduced(own), api.OK, "Tree of ", show(got))
		return
	}
	rng := rand.New(rand.NewSource(157))
	for range 50 {
		in := make([]int, len(own.Hood))
		for i := range in {
			in[i] = rng.Intn(own.States)
		}
		if s, e := ruletable.Next(got, in); s != followed(own, in) || e != api.OK {
			t.Errorf("Next of %s is %d for %v", show(got), s, in)
		}
	}
}

// checkTableOfTree calls checkTable with the rows of a valid tree for whose neighbourhood all states can be listed, and with those of
// trees that lead to the same new states.
func checkTableOfTree(t *testing.T, rng *rand.Rand, own api.Tree) {
	t.Helper()
	list := valuesOf(own.States, len(own.Hood), func(in []int) int { return followed(own, in) })
	rows := rowsOfList(own.States, own.Hood, list)
	checkTable(t, own, rows)
	checkTable(t, listed(own.States, own.Hood, list), rows)
	checkTable(t, grown(rng, own), rows)
}

// grown returns a valid tree with the same new states as a given one: each of its nodes may be there several times, with any of the nodes
// that are there for its elements. Some nodes are not needed.
func grown(rng *rand.Rand, own api.Tree) api.Tree {
	longer := api.Tree{States: own.States, Hood: slices.Clone(own.Hood), Nodes: []api.Node{node(1, make([]int, own.States)...)}}
	copies := make([][]int, len(own.Nodes))
	for i, old := range own.Nodes {
		for range 1 + rng.Intn(3) {
			n := node(old.Level)
			for _, e := range old.Next {
				if old.Level > 1 {
					e = copies[e][rng.Intn(len(copies[e]))]
				}
				n.Next = append(n.Next, e)
			}
			copies[i] = append(copies[i], len(longer.Nodes))
			longer.Nodes = append(longer.Nodes, n)
		}
	}
	return longer
}

// randomTree returns a valid tree with up to about n nodes, in which there may be equal ones and others that are not needed.
func randomTree(rng *rand.Rand, states int, l []api.Point, n int) api.Tree {
	t := api.Tree{States: states, Hood: slices.Clone(l)}
	before, below := 0, states
	for level := 1; level <= len(l); level++ {
		base, number := len(t.Nodes), 1+rng.Intn(1+n/len(l))
		for range number {
			own := node(level)
			for range states {
				own.Next = append(own.Next, before+rng.Intn(below))
			}
			t.Nodes = append(t.Nodes, own)
		}
		before, below = base, number
	}
	return t
}

// P15.3: tables of small trees, row by row.
func TestTableRows(t *testing.T) {
	for _, c := range []struct {
		states  int
		drawing string
		list    []int // the new states
		rows    string
	}{
		// The second example of the chapter.
		{2, line, []int{0, 0, 1, 1, 0, 0, 1, 1}, ""},
		{2, line, []int{0, 0, 0, 0, 0, 0, 0, 0}, "abc>0"},
		{2, line, []int{1, 1, 1, 1, 1, 1, 1, 1}, "abc>1"},
		// The first example: what is left out, and what is not.
		{2, line, []int{0, 0, 1, 1, 1, 0, 1, 1}, "100>1"},
		// A single position, which is the centre or not.
		{2, single, []int{0, 1}, ""}, {2, single, []int{1, 0}, "0>1 1>0"}, {2, single, []int{0, 0}, "a>0"}, {2, single, []int{1, 1}, "a>1"},
		{3, single, []int{0, 0, 2}, "1>0"}, {3, single, []int{2, 1, 2}, "0>2"}, {3, single, []int{1, 1, 2}, "0>1"},
		{2, beside, []int{0, 1}, "1>1"}, {2, beside, []int{1, 0}, "0>1"}, {2, beside, []int{0, 0}, ""}, {2, beside, []int{1, 1}, "a>1"},
		{3, beside, []int{2, 0, 1}, "0>2 2>1"}, {3, beside, []int{0, 2, 2}, "1>2 2>2"},
		// The centre is the last position, or the first one.
		{2, left, []int{0, 1, 0, 0}, "1b>0"}, {3, left, []int{0, 1, 2, 0, 0, 2, 0, 1, 2}, "11>0"},
		{2, left, []int{1, 1, 0, 0}, "0b>1 1b>0"}, {2, left, []int{1, 1, 0, 1}, "0b>1"},
		{3, left, []int{0, 1, 2, 0, 0, 0, 2, 1, 2}, "1b>0 20>2"},
		{2, corner, []int{0, 0, 0, 0, 1, 1, 1, 0}, "111>0"}, {2, corner, []int{0, 0, 0, 0, 0, 0, 0, 0}, "abc>0"},
		{2, corner, []int{1, 0, 1, 0, 1, 0, 1, 0}, "ab0>1 ab1>0"}, {2, corner, []int{1, 1, 0, 0, 0, 0, 1, 1}, "00c>1 10c>0"},
		// Without a centre the new state 0 is left out only.
		{2, pair, []int{0, 1, 0, 1}, "a1>1"}, {2, pair, []int{0, 0, 1, 1}, "1b>1"}, {2, pair, []int{0, 1, 1, 0}, "01>1 10>1"},
		{2, pair, []int{1, 1, 1, 0}, "0b>1 10>1"}, {3, pair, []int{0, 0, 0, 1, 1, 1, 2, 2, 2}, "1b>1 2b>2"},
		{3, pair, []int{0, 1, 2, 0, 1, 2, 0, 1, 2}, "a1>1 a2>2"}, {3, pair, []int{2, 0, 0, 2, 2, 2, 0, 0, 0}, "00>2 1b>2"},
		// Nodes above the centre, whose element is a variable only if all others are equal too.
		{2, line, []int{1, 1, 1, 1, 0, 0, 1, 1}, "0bc>1"}, {2, line, []int{1, 1, 1, 0, 0, 0, 1, 1}, "00c>1 011>0"},
		{2, line, []int{0, 1, 0, 1, 0, 1, 0, 1}, "ab0>0 ab1>1"},
		{2, line, []int{0, 1, 0, 1, 0, 0, 1, 1}, "0b0>0 0b1>1"}, {2, line, []int{0, 0, 1, 0, 0, 0, 1, 0}, "a11>0"},
	} {
		var rows []api.Row
		for _, text := range strings.Fields(c.rows) {
			rows = append(rows, row(text))
		}
		if others := rowsOfList(c.states, drawn(c.drawing), c.list); !slices.EqualFunc(rows, others, func(a, b api.Row) bool {
			return slices.Equal(a.Ins, b.Ins) && a.Out == b.Out
		}) {
			t.Errorf("the rows of %v are %v, not %v", c.list, others, rows)
		}
		checkTable(t, listed(c.states, drawn(c.drawing), c.list), rows)
	}
}

// P15.3: all new states of small neighbourhoods.
func TestTableEvery(t *testing.T) {
	t.Parallel()
	rng := rand.New(rand.NewSource(158))
	for _, c := range []struct {
		states  int
		drawing string
	}{{2, single}, {2, beside}, {3, single}, {3, beside}, {4, single}, {2, left}, {2, pair}, {2, line}, {2, corner}, {2, last}, {2, three}} {
		l := drawn(c.drawing)
		for _, list := range everyState(c.states, len(everyState(c.states, len(l)))) {
			checkTableOfTree(t, rng, listed(c.states, l, list))
		}
	}
}

// P15.3: random trees with each neighbourhood and each number of states for which all states can be visited soon.
func TestTableRandom(t *testing.T) {
	t.Parallel()
	rng := rand.New(rand.NewSource(159))
	for _, c := range permitted {
		l := drawn(c.drawing)
		for states := 2; states <= api.MaxStates; states++ {
			for range 8 {
				if len(everyState(states, len(l))) < 2000 {
					checkTableOfTree(t, rng, randomTree(rng, states, l, rng.Intn(30)))
				}
			}
		}
	}
	// The trees of tables have few rows even with more positions.
	for _, c := range []struct {
		drawing     string
		states, sym int
	}{{neumann, 6, 0}, {neumann, 8, 0}, {row5, 8, 0}, {hex, 3, 0}, {ring8, 2, 0}, {moore, 2, 0}, {moore, 3, 0}, {moore, 2, 2}} {
		for rows := range 4 {
			own, e := tabletree.Tree(randomTable(rng, c.drawing, c.states, c.sym, 5, rows))
			if e != api.OK {
				t.Fatalf("the error is %d", e)
			}
			checkTableOfTree(t, rng, own)
		}
	}
}

// excepting returns a tree that leads to certain new states for some states of the neighbourhood, and otherwise to that of the centre, or
// to 0 if there is no centre.
func excepting(states int, l []api.Point, ins [][]int, outs []int) api.Tree {
	t := api.Tree{States: states, Hood: slices.Clone(l)}
	numbers := map[string]int{}
	var visit func(position, centre int, ins [][]int, outs []int) int
	visit = func(position, centre int, ins [][]int, outs []int) int {
		if position == len(l) {
			if len(outs) > 0 {
				return outs[0]
			}
			return centre
		}
		text := fmt.Sprint(position, centre, ins, outs)
		if i, is := numbers[text]; is {
			return i
		}
		own := node(len(l) - position)
		for s := range states {
			var laterIns [][]int
			var laterOuts []int
			for i, in := range ins {
				if in[0] == s {
					laterIns, laterOuts = append(laterIns, in[1:]), append(laterOuts, outs[i])
				}
			}
			read := centre
			if l[position] == (api.Point{}) {
				read = s
			}
			own.Next = append(own.Next, visit(position+1, read, laterIns, laterOuts))
		}
		numbers[text] = len(t.Nodes)
		t.Nodes = append(t.Nodes, own)
		return numbers[text]
	}
	visit(0, 0, ins, outs)
	return t
}

// rowsOfTree returns the rows of a valid tree, or 401 of them if there are more.
func rowsOfTree(own api.Tree) []api.Row {
	own = reduced(own)
	var rows []api.Row
	var walk func(ins []int, e int)
	walk = func(ins []int, e int) {
		if len(rows) == 401 {
			return
		}
		if len(ins) == len(own.Hood) {
			if !isLeftOut(own.Hood, ins, e) {
				rows = append(rows, api.Row{Ins: slices.Clone(ins), Out: e})
			}
			return
		}
		next := own.Nodes[e].Next
		if slices.Equal(next, slices.Repeat(next[:1], len(next))) {
			walk(append(ins, -1-len(ins)), next[0])
			return
		}
		for s, e := range next {
			walk(append(ins, s), e)
		}
	}
	walk(nil, len(own.Nodes)-1)
	return rows
}

// distinct returns n different lists of states of a neighbourhood, of which only the first few positions differ, and for each of them a new
// state that a table without rows does not lead to. Of the lists that differ at one position only, one is always missing, so that no two of
// them make up a row together.
func distinct(rng *rand.Rand, states int, l []api.Point, few, n int) ([][]int, []int) {
	all := slices.DeleteFunc(everyState(states, few), func(in []int) bool {
		sum := 0
		for _, s := range in {
			sum += s
		}
		return sum%states == 0
	})
	rng.Shuffle(len(all), func(i, k int) { all[i], all[k] = all[k], all[i] })
	rest := make([]int, len(l)-few)
	for i := range rest {
		rest[i] = rng.Intn(states)
	}
	var ins [][]int
	var outs []int
	for _, begin := range all[:n] {
		in, own := slices.Concat(begin, rest), 0
		if centre := slices.Index(l, api.Point{}); centre >= 0 {
			own = in[centre]
		}
		ins, outs = append(ins, in), append(outs, (own+1+rng.Intn(states-1))%states)
	}
	return ins, outs
}

// P15.3: trees with as many rows as a table may have, about as many, and some more. Most of their ways are left out.
func TestTableLimit(t *testing.T) {
	t.Parallel()
	rng := rand.New(rand.NewSource(160))
	for _, c := range []struct {
		states  int
		drawing string
		few     int
	}{
		{8, three, 3}, {8, line, 3}, {8, neumann, 4}, {8, ring4, 4}, {2, square, 10}, {3, square, 7}, {8, square, 3}, {8, square, 4},
		{5, hollow, 5}, {8, hollow, 3}, {2, outer, 10},
	} {
		l := drawn(c.drawing)
		for _, n := range []int{1, 399, 400, 401, 440} {
			ins, outs := distinct(rng, c.states, l, c.few, n)
			own := excepting(c.states, l, ins, outs)
			rows := rowsOfTree(own)
			if len(rows) != min(n, 401) || !tree.Right(own) {
				t.Fatalf("the tree has %d rows, or is not valid: %s", len(rows), showTree(own))
			}
			checkTable(t, own, rows)
		}
	}
}

// summing returns the reduced tree that leads to the sum of the states of some positions, modulo the number of states.
func summing(states int, l []api.Point, positions ...int) api.Tree {
	own := api.Tree{States: states, Hood: slices.Clone(l)}
	below := states
	for level := 1; level <= len(l); level++ {
		base, before := len(own.Nodes), len(own.Nodes)-below
		if level == 1 {
			before = 0
		}
		for sum := range states {
			n := node(level)
			for s := range states {
				if !slices.Contains(positions, len(l)-level) {
					s = 0
				}
				n.Next = append(n.Next, before+(sum+s)%states)
			}
			own.Nodes = append(own.Nodes, n)
		}
		below = len(own.Nodes) - base
	}
	// The sum of no states is 0: the root is the first node of its level.
	own.Nodes = own.Nodes[:len(own.Nodes)-states+1]
	return reduced(own)
}

// P15.3, and rule 1 for all calls: trees with very many ways and rows, and trees of which a few positions only matter, which have few rows.
func TestTableManyWays(t *testing.T) {
	rng := rand.New(rand.NewSource(161))
	for _, drawing := range []string{square, hollow, moore} {
		l := drawn(drawing)
		for states := 2; states <= api.MaxStates; states++ {
			var every []int
			for i := range l {
				every = append(every, i)
			}
			for _, positions := range [][]int{
				nil, {0}, {len(l) - 1}, {len(l) / 2}, {0, len(l) - 1}, {1, 3}, {2, len(l) / 2}, {1, 3, 5}, {0, 1, len(l) / 2}, every[1:], every[:8], every,
			} {
				own := summing(states, l, positions...)
				checkTable(t, own, rowsOfTree(own))
				if len(own.Nodes) < 1000 {
					checkTable(t, grown(rng, own), rowsOfTree(own))
				}
			}
			got, e := tabletree.Table(summing(states, l, every...))
			if wanted := drawing == moore && states == 2; (e == api.OK) != wanted || e != api.OK && (e != api.ErrSize || !sameTable(got, api.Table{})) {
				t.Errorf("Table of a sum is %s with the error %d", show(got), e)
			}
		}
	}
}

// P15.3, and rule 1 for all calls: a tree with nodes that lead to the same new states, but have different elements, so that it has very many
// ways before it is reduced.
func TestTableOfEqualNodes(t *testing.T) {
	for _, states := range []int{2, 3, 8} {
		own := api.Tree{States: states, Hood: drawn(square)}
		for level := 1; level <= 25; level++ {
			below := len(own.Nodes) - states
			for i := range states {
				next := slices.Repeat([]int{1}, states)
				for k := range next {
					if level > 1 {
						next[k] = below + (i+k)%states
					}
				}
				own.Nodes = append(own.Nodes, node(level, next...))
			}
		}
		var r api.Row
		for k := range 25 {
			r.Ins = append(r.Ins, -1-k)
		}
		r.Out = 1
		checkTable(t, own, []api.Row{r})
	}
}

// wrongTrees returns trees that are not valid: in each of them one condition is broken, and mostly all others hold.
func wrongTrees() []api.Tree {
	nodes := []api.Node{node(1, 0, 1), node(1, 1, 1), node(2, 0, 1)}
	beyond := summing(2, drawn(square))
	beyond.Hood = append(beyond.Hood, api.Point{Y: 3})
	beyond.Nodes = append(beyond.Nodes, node(26, len(beyond.Nodes)-1, len(beyond.Nodes)-1))
	return []api.Tree{
		{}, beyond,
		// Numbers of states.
		made(1, left, node(1, 0), node(2, 0)), made(0, left, node(1), node(2)), made(-1, left, node(1), node(2)),
		made(9, single, node(1, 0, 1, 2, 3, 4, 5, 6, 7, 8)), made(3, left, nodes...), made(math.MinInt, left, nodes...),
		made(math.MaxInt, left, nodes...), made(1<<32+2, left, nodes...),
		// Neighbourhoods.
		{States: 2, Nodes: nodes}, made(2, single, nodes...), made(2, line, nodes...),
		{States: 2, Hood: []api.Point{{}, {X: -1}}, Nodes: nodes}, {States: 2, Hood: []api.Point{{Y: 1}, {}}, Nodes: nodes},
		{States: 2, Hood: []api.Point{{}, {}}, Nodes: nodes}, {States: 2, Hood: []api.Point{{X: -3}, {}}, Nodes: nodes},
		{States: 2, Hood: []api.Point{{}, {Y: 3}}, Nodes: nodes}, {States: 2, Hood: []api.Point{{Y: math.MinInt}, {}}, Nodes: nodes},
		// Numbers of nodes.
		made(2, left), made(2, single, slices.Repeat([]api.Node{node(1, 0, 1)}, 4097)...),
		// Levels.
		made(2, left, node(1, 0, 1), node(0, 0, 0), node(2, 0, 0)), made(2, left, node(1, 0, 1), node(-1, 0, 0), node(2, 0, 0)),
		made(2, left, node(1, 0, 1), node(2, 0, 0), node(3, 1, 1)), made(2, left, node(1, 0, 1), node(3, 0, 0)),
		made(2, left, node(1, 0, 1), node(2, 0, 0), node(1, 0, 1)), made(2, left, node(1, 0, 1)),
		// Numbers of elements.
		made(2, left, node(1, 0, 1), node(1), node(2, 0, 0)), made(2, left, node(1, 0, 1), node(1, 1), node(2, 0, 0)),
		made(2, left, node(1, 0, 1), node(1, 1, 1, 1), node(2, 0, 0)), made(2, left, node(1, 0, 1), node(2, 0)),
		made(2, left, node(1, 0, 1), node(2, 0, 0, 0)), made(8, single, node(1, 0, 1, 2, 3, 4, 5, 6)),
		// New states.
		made(2, left, node(1, 0, 2), node(2, 0, 0)), made(2, left, node(1, -1, 0), node(2, 0, 0)), made(8, single, node(1, 0, 1, 2, 3, 4, 5, 6, 8)),
		made(2, left, node(1, 0, 1), node(1, 0, 2), node(2, 0, 0)), made(2, single, node(1, math.MinInt, 0)),
		made(2, single, node(1, 0, math.MaxInt)), made(2, single, node(1, 1<<32, 0)),
		// Indices.
		made(2, left, node(1, 0, 1), node(2, 0, 1)), made(2, left, node(1, 0, 1), node(2, -1, 0)), made(2, left, node(1, 0, 1), node(2, 0, 2)),
		made(2, left, node(1, 0, 1), node(2, 2, 0), node(1, 0, 1), node(2, 0, 0)), made(2, left, node(1, 0, 1), node(2, 0, math.MaxInt)),
		made(2, left, node(1, 0, 1), node(2, math.MinInt, 0)), made(2, left, node(1, 0, 1), node(2, 0, 0), node(2, 0, 1)),
		made(2, line, node(1, 0, 1), node(2, 0, 0), node(3, 1, 0)), made(2, line, node(1, 0, 1), node(2, 0, 0), node(3, 0, 1)),
		made(2, line, node(1, 0, 1), node(2, 0, 0), node(1, 0, 1), node(3, 1, 2)), made(2, left, node(1, 0, 1), node(2, 1<<32, 0)),
	}
}

// P15.3: trees that are not valid, also one whose rows would be too many.
func TestTableWrong(t *testing.T) {
	all := summing(8, drawn(square), 0, 1, 2, 3, 4, 5)
	all.Nodes[len(all.Nodes)-1].Next[7] = -1
	for k, own := range append(wrongTrees(), all) {
		if tree.Right(own) {
			t.Errorf("the tree %d, %s, is valid", k, showTree(own))
		}
		given := laidTree(own)
		got, e := tabletree.Table(given)
		if !sameTable(got, api.Table{}) || e != api.ErrRule {
			t.Errorf("Table of %s is %s with the error %d", showTree(own), show(got), e)
		}
		if !sameTree(wholeTree(given), wholeTree(laidTree(own))) {
			t.Errorf("Table changed the tree %s", showTree(own))
		}
	}
	checkTable(t, made(2, single, slices.Repeat([]api.Node{node(1, 0, 1)}, 4096)...), nil)
}

// P15.3, and LANGUAGE.md, rule 7: the table is new memory.
func TestTableIsNew(t *testing.T) {
	rng := rand.New(rand.NewSource(162))
	for _, drawing := range []string{single, left, pair, line, neumann, square} {
		for _, states := range []int{2, 3, 8} {
			l := drawn(drawing)
			own := laidTree(summing(states, l, 0, len(l)-1))
			if drawing == line {
				own = laidTree(randomTree(rng, states, l, 10))
			}
			given := laidTree(own)
			got, e := tabletree.Table(given)
			want, again := laidTable(got), laidTable(got)
			for v := range got.Vars {
				fill(got.Vars[v], 99)
				want.Vars[v] = slices.Repeat([]int{99}, states)
				if !sameTable(got, want) {
					t.Errorf("the variable %d of %s shares memory", v, show(got))
				}
			}
			for i := range got.Rows {
				fill(got.Rows[i].Ins, 99)
				want.Rows[i].Ins = slices.Repeat([]int{99}, len(l))
				if !sameTable(got, want) {
					t.Errorf("the row %d of %s shares memory", i, show(got))
				}
			}
			spoil(got)
			if e != api.OK || !sameTree(wholeTree(given), wholeTree(laidTree(own))) {
				t.Errorf("the table shares memory with %s, or the error is %d", showTree(own), e)
			}
			got, _ = tabletree.Table(given)
			spoilTree(given)
			if !sameTable(got, again) {
				t.Errorf("after a change of the tree, or of the table before, the table is %s, not %s", show(got), show(again))
			}
		}
	}
}
