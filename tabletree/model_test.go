package tabletree_test

import (
	"fmt"
	"math"
	"math/rand"
	"slices"
	"strings"
	"testing"

	"cellular/api"
	"cellular/ruletable"
	"cellular/tree"
)

// The tests compare package tabletree with a model that writes down the new states for all states of the neighbourhood, as package
// ruletable returns them or as a function of the test tells them, and finds the reduced tree, the rows that decide first, and the rows of a
// tree in such lists.

// ints are numbers at the limits of int, of states and of indices of rows, and some that are small ones in 8 or 32 bits.
var ints = []int{
	math.MinInt, math.MinInt + 1, -1<<32 - 1, -1 << 32, -1<<32 + 1, -401, -400, -257, -256, -255, -9, -8, -4, -3, -2, -1, 0, 1, 2, 3, 4, 5,
	7, 8, 9, 10, 255, 256, 257, 258, 399, 400, 401, 1<<32 - 1, 1 << 32, 1<<32 + 1, 1<<32 + 2, math.MaxInt - 1, math.MaxInt,
}

// Drawings of neighbourhoods.
const (
	single  = "o"
	beside  = "... ..o ..."
	left    = "... oo. ..."
	pair    = "... o.o ..."
	corner  = "... .oo .o." // the centre is the first position
	last    = ".o. oo. ..." // the centre is the last one
	line    = "... ooo ..."
	apart   = "..... ..... o...o ..... ...o."
	row5    = "..... ..... ooooo ..... ....."
	ring4   = ".o. o.o .o."
	neumann = ".o. ooo .o."
	corners = "o.o .o. o.o"
	three   = "o.o o.. ..."
	swirl   = ".o... ....o ..... o.... ...o." // rotations map it to itself, and reflections do not
	hex     = "oo. ooo .oo"
	ring8   = "ooo o.o ooo"
	moore   = "ooo ooo ooo"
	square  = "ooooo ooooo ooooo ooooo ooooo"
	hollow  = "ooooo ooooo oo.oo ooooo ooooo"
	outer   = "oo.oo oo.oo ..... oo.oo oo.oo"
	knight  = "oo.oo o.o.o .o.o. o.o.o oo.oo"
)

// permitted are neighbourhoods of up to seven positions, and the kinds of symmetries that they permit.
var permitted = []struct {
	drawing string
	syms    []int
}{
	{single, []int{0, 1, 2, 3}}, {beside, []int{0, 3}}, {left, []int{0, 3}}, {pair, []int{0, 3}}, {corner, []int{0, 3}}, {last, []int{0, 3}},
	{line, []int{0, 3}}, {apart, []int{0, 3}}, {row5, []int{0, 3}}, {ring4, []int{0, 1, 2, 3}}, {neumann, []int{0, 1, 2, 3}},
	{corners, []int{0, 1, 2, 3}}, {swirl, []int{0, 1, 3}}, {hex, []int{0, 3}},
}

// drawn returns the offsets of a drawing, in whose middle is the centre.
func drawn(drawing string) []api.Point {
	var l []api.Point
	rows := strings.Fields(drawing)
	for y, row := range rows {
		for x, c := range row {
			if c == 'o' {
				l = append(l, api.Point{X: x - len(rows)/2, Y: y - len(rows)/2})
			}
		}
	}
	return l
}

// element returns what a digit or a letter stands for: a state, or a variable (a is the first one).
func element(c rune) int {
	if c >= 'a' {
		return -1 - int(c-'a')
	}
	return int(c - '0')
}

// row returns the row of a text: an element for each position, the sign >, and the new state.
func row(text string) api.Row {
	ins, out, _ := strings.Cut(text, ">")
	r := api.Row{Out: element(rune(out[0]))}
	for _, c := range ins {
		r.Ins = append(r.Ins, element(c))
	}
	return r
}

// table returns a table with variables, each of which is a text with its states, and with rows.
func table(states, sym int, drawing, vars string, rows ...string) api.Table {
	t := api.Table{States: states, Sym: sym, Hood: drawn(drawing)}
	for _, text := range strings.Fields(vars) {
		t.Vars = append(t.Vars, nil)
		for _, c := range text {
			t.Vars[len(t.Vars)-1] = append(t.Vars[len(t.Vars)-1], element(c))
		}
	}
	for _, text := range rows {
		t.Rows = append(t.Rows, row(text))
	}
	return t
}

// node returns a node with a level and elements.
func node(level int, next ...int) api.Node {
	return api.Node{Level: level, Next: next}
}

// made returns a tree with nodes.
func made(states int, drawing string, nodes ...api.Node) api.Tree {
	return api.Tree{States: states, Hood: drawn(drawing), Nodes: nodes}
}

// everyState returns all lists of n states, in ascending order.
func everyState(states, n int) [][]int {
	all := [][]int{{}}
	for range n {
		longer := make([][]int, 0, len(all)*states)
		for _, l := range all {
			for s := range states {
				longer = append(longer, append(slices.Clone(l), s))
			}
		}
		all = longer
	}
	return all
}

// valuesOf returns what a function returns for all states of a neighbourhood, in the order of everyState.
func valuesOf(states, n int, value func(in []int) int) []int {
	var list []int
	for _, in := range everyState(states, n) {
		list = append(list, value(in))
	}
	return list
}

// nextOf returns the function whose values are the new states of a table.
func nextOf(t api.Table) func(in []int) int {
	return func(in []int) int {
		s, e := ruletable.Next(t, in)
		if e != api.OK {
			panic(e)
		}
		return s
	}
}

// decidesOf returns the function whose values are 1 where a row of a table decides, and otherwise 0.
func decidesOf(t api.Table, i int) func(in []int) int {
	return func(in []int) int {
		if _, decides := ruletable.Match(t, i, in); decides {
			return 1
		}
		return 0
	}
}

// listed returns the reduced tree with a list of new states. Parts of the list are made equal from level 1 on; then a walk numbers them.
func listed(states int, l []api.Point, list []int) api.Tree {
	var levels [][][]int // the elements of the nodes of each level, without equal ones
	for range l {
		numbers, nodes := map[string]int{}, [][]int{}
		var above []int
		for next := range slices.Chunk(list, states) {
			text := fmt.Sprint(next)
			if _, is := numbers[text]; !is {
				numbers[text] = len(nodes)
				nodes = append(nodes, next)
			}
			above = append(above, numbers[text])
		}
		levels, list = append(levels, nodes), above
	}
	t := api.Tree{States: states, Hood: slices.Clone(l)}
	finished := map[[2]int]int{}
	var walk func(level, n int) int
	walk = func(level, n int) int {
		if level == 0 {
			return n
		}
		if i, is := finished[[2]int{level, n}]; is {
			return i
		}
		own := node(level)
		for _, below := range levels[level-1][n] {
			own.Next = append(own.Next, walk(level-1, below))
		}
		finished[[2]int{level, n}] = len(t.Nodes)
		t.Nodes = append(t.Nodes, own)
		return len(t.Nodes) - 1
	}
	walk(len(l), 0)
	return t
}

// limited returns a tree, or the zero value and ErrSize if it has too many nodes.
func limited(t api.Tree) (api.Tree, api.Errno) {
	if len(t.Nodes) > 4096 {
		return api.Tree{}, api.ErrSize
	}
	return t, api.OK
}

// followed returns the new state of a valid tree for the states of its neighbourhood.
func followed(t api.Tree, in []int) int {
	n := len(t.Nodes) - 1
	for _, s := range in {
		n = t.Nodes[n].Next[s]
	}
	return n
}

// isReduced reports whether a valid tree is reduced: no two nodes are equal, and a walk from the root on finishes all nodes in the order
// of their numbers.
func isReduced(t api.Tree) bool {
	texts := map[string]bool{}
	for _, own := range t.Nodes {
		texts[fmt.Sprint(own)] = true
	}
	var finished, every []int
	seen := map[int]bool{}
	var walk func(i int)
	walk = func(i int) {
		if seen[i] {
			return
		}
		seen[i] = true
		for _, e := range t.Nodes[i].Next {
			if t.Nodes[i].Level > 1 {
				walk(e)
			}
		}
		finished = append(finished, i)
	}
	walk(len(t.Nodes) - 1)
	for i := range t.Nodes {
		every = append(every, i)
	}
	return len(texts) == len(t.Nodes) && slices.Equal(finished, every)
}

// sameNode reports whether two nodes are equal.
func sameNode(a, b api.Node) bool {
	return a.Level == b.Level && slices.Equal(a.Next, b.Next)
}

// sameTree reports whether two trees are equal, node by node.
func sameTree(a, b api.Tree) bool {
	return a.States == b.States && slices.Equal(a.Hood, b.Hood) && slices.EqualFunc(a.Nodes, b.Nodes, sameNode)
}

// sameTable reports whether two tables are equal.
func sameTable(a, b api.Table) bool {
	return a.States == b.States && a.Sym == b.Sym && slices.Equal(a.Hood, b.Hood) && slices.EqualFunc(a.Vars, b.Vars, slices.Equal) &&
		slices.EqualFunc(a.Rows, b.Rows, func(x, y api.Row) bool { return slices.Equal(x.Ins, y.Ins) && x.Out == y.Out })
}

// checkTree compares a tree and an error with the expected ones, and checks that the tree is reduced, or the zero value with an error. The
// call that returned them is told for messages.
func checkTree(t *testing.T, got api.Tree, e api.Errno, want api.Tree, wanted api.Errno, call ...any) {
	t.Helper()
	if !sameTree(got, want) || e != wanted {
		t.Errorf("%s is %s with the error %d, not %s with %d", begin(fmt.Sprint(call...)), showTree(got), e, showTree(want), wanted)
	}
	if e == api.OK && (!tree.Right(got) || !isReduced(got)) {
		t.Errorf("%s is %s, which is not valid, or not reduced", begin(fmt.Sprint(call...)), showTree(got))
	}
}

// laid returns a list in new memory, in which two elements follow it; a list that is nil remains so.
func laid[E any](l []E, behind E) []E {
	if l == nil {
		return nil
	}
	longer := append(slices.Clone(l), behind, behind)
	return longer[: len(l) : len(l)+2]
}

// laidTree returns a tree whose lists, at each depth, are new memory that goes on behind them.
func laidTree(t api.Tree) api.Tree {
	t.Hood = laid(t.Hood, api.Point{X: 77, Y: -77})
	t.Nodes = laid(t.Nodes, node(77, -77))
	for i := range t.Nodes {
		t.Nodes[i].Next = laid(t.Nodes[i].Next, 77)
	}
	return t
}

// laidTable returns a table whose lists, at each depth, are new memory that goes on behind them.
func laidTable(t api.Table) api.Table {
	t.Hood = laid(t.Hood, api.Point{X: 77, Y: -77})
	t.Vars = laid(t.Vars, []int{77})
	for v := range t.Vars {
		t.Vars[v] = laid(t.Vars[v], 77)
	}
	t.Rows = laid(t.Rows, api.Row{Ins: []int{-77}, Out: 77})
	for i := range t.Rows {
		t.Rows[i].Ins = laid(t.Rows[i].Ins, -77)
	}
	return t
}

// wholeTree returns a tree whose lists, at each depth, contain what lies behind them in memory.
func wholeTree(t api.Tree) api.Tree {
	t.Hood = t.Hood[:cap(t.Hood)]
	t.Nodes = slices.Clone(t.Nodes[:cap(t.Nodes)])
	for i := range t.Nodes {
		t.Nodes[i].Next = t.Nodes[i].Next[:cap(t.Nodes[i].Next)]
	}
	return t
}

// wholeTable returns a table whose lists, at each depth, contain what lies behind them in memory.
func wholeTable(t api.Table) api.Table {
	t.Hood = t.Hood[:cap(t.Hood)]
	t.Vars = slices.Clone(t.Vars[:cap(t.Vars)])
	for v := range t.Vars {
		t.Vars[v] = t.Vars[v][:cap(t.Vars[v])]
	}
	t.Rows = slices.Clone(t.Rows[:cap(t.Rows)])
	for i := range t.Rows {
		t.Rows[i].Ins = t.Rows[i].Ins[:cap(t.Rows[i].Ins)]
	}
	return t
}

// unchanged runs a call with a table, and checks that it left the table, and what lies behind its lists in memory, as they were.
func unchanged(t *testing.T, own api.Table, call func(own api.Table)) {
	t.Helper()
	given := laidTable(own)
	call(given)
	if !sameTable(given, own) || !sameTable(wholeTable(given), wholeTable(laidTable(own))) {
		t.Errorf("a call changed the table %s", show(own))
	}
}

// spoil changes all that a table contains.
func spoil(t api.Table) {
	for v := range t.Vars {
		fill(t.Vars[v], 98)
	}
	for i := range t.Rows {
		fill(t.Rows[i].Ins, 98)
	}
	fill(t.Hood, api.Point{X: 98})
	fill(t.Vars, nil)
	fill(t.Rows, api.Row{Out: 98})
}

// spoilTree changes all that a tree contains.
func spoilTree(t api.Tree) {
	for i := range t.Nodes {
		fill(t.Nodes[i].Next, 98)
	}
	fill(t.Hood, api.Point{X: 98})
	fill(t.Nodes, node(98))
}

// fill sets all elements of a list and those that its memory has behind them.
func fill[E any](l []E, e E) {
	l = l[:cap(l)]
	for i := range l {
		l[i] = e
	}
}

// randomSet returns some states in ascending order.
func randomSet(rng *rand.Rand, states int) []int {
	set := rng.Perm(states)[:rng.Intn(states)+1]
	slices.Sort(set)
	return set
}

// randomTable returns a valid table with random variables and rows, many of which have several equal elements.
func randomTable(rng *rand.Rand, drawing string, states, sym, vars, rows int) api.Table {
	t := api.Table{States: states, Sym: sym, Hood: drawn(drawing)}
	for range vars {
		t.Vars = append(t.Vars, randomSet(rng, states))
	}
	for range rows {
		var r api.Row
		var own []int
		for range rng.Intn(len(t.Hood)) + 1 {
			own = append(own, rng.Intn(states+vars)-vars)
		}
		for range t.Hood {
			r.Ins = append(r.Ins, own[rng.Intn(len(own))])
		}
		r.Out = rng.Intn(states)
		if rng.Intn(2) == 0 {
			r.Out = r.Ins[rng.Intn(len(r.Ins))]
		}
		t.Rows = append(t.Rows, r)
	}
	return t
}

// show returns the beginning of what a table contains, for messages.
func show(t api.Table) string {
	t.Hood = t.Hood[:min(len(t.Hood), 30)]
	t.Vars = t.Vars[:min(len(t.Vars), 10)]
	t.Rows = t.Rows[:min(len(t.Rows), 20)]
	return begin(fmt.Sprintf("%+v", t))
}

// showTree returns the beginning of what a tree contains, for messages.
func showTree(t api.Tree) string {
	t.Hood = t.Hood[:min(len(t.Hood), 30)]
	t.Nodes = t.Nodes[:min(len(t.Nodes), 40)]
	return begin(fmt.Sprintf("%+v", t))
}

// begin returns the beginning of a text, for messages.
func begin(s string) string {
	return s[:min(len(s), 600)]
}
