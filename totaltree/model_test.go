package totaltree_test

import (
	"fmt"
	"math"
	"math/rand"
	"slices"
	"strings"
	"testing"

	"cellular/api"
	"cellular/tree"
)

// The tests compare package totaltree with the new states that the definitions name: with lists of all of them, as long as there are not
// too many, and with trees of rules that read one state after the other and remember a number.

// ints are numbers at the limits of int, of states, of numbers of neighbours and of elementary rules, and some that are small ones in 8 or
// 32 bits.
var ints = []int{
	math.MinInt, math.MinInt + 1, math.MinInt + 2, -1<<32 - 1, -1 << 32, -1<<32 + 1, -1<<32 + 2, -257, -256, -255, -254, -9, -8, -7, -4, -3,
	-2, -1, 0, 1, 2, 3, 4, 5, 6, 7, 8, 9, 10, 15, 16, 17, 254, 255, 256, 257, 258, 259, 1<<32 - 1, 1 << 32, 1<<32 + 1, 1<<32 + 2, 1<<32 + 3,
	math.MaxInt - 1, math.MaxInt,
}

// Drawings of neighbourhoods.
const (
	line    = "... ooo ..."
	neumann = ".o. ooo .o."
	hex     = "oo. ooo .oo"
	moore   = "ooo ooo ooo"
	square  = "ooooo ooooo ooooo ooooo ooooo"
)

// usual are the neighbourhoods of rules by counts.
var usual = []string{neumann, hex, moore}

// drawn returns the offsets of a drawing, in whose middle is the centre.
func drawn(drawing string) []api.Point {
	var l []api.Point
	rows := strings.Fields(drawing)
	for y, row := range rows {
		for x, c := range row {
			if c == 'o' {
				l = append(l, api.Point{X: x - len(rows)/2, Y: y - len(rows)/2})
			}
		}
	}
	return l
}

// totals returns a rule by counts.
func totals(drawing string, states int, birth, survive []int) api.Totals {
	return api.Totals{Hood: drawn(drawing), States: states, Birth: birth, Survive: survive}
}

// subset returns the numbers whose bits are set, in ascending order.
func subset(bits int) []int {
	var l []int
	for n := range 10 {
		if bits>>n&1 == 1 {
			l = append(l, n)
		}
	}
	return l
}

// counted returns the new state of a rule by counts for the state of the centre and the number of neighbours in state 1.
func counted(x api.Totals, centre, number int) int {
	switch {
	case centre == 0 && slices.Contains(x.Birth, number), centre == 1 && slices.Contains(x.Survive, number):
		return 1
	case centre == 0, centre+1 == x.States:
		return 0
	}
	return centre + 1
}

// class returns the state of the centre and the number of neighbours in state 1.
func class(l []api.Point, in []int) (centre, number int) {
	for i, s := range in {
		if l[i] == (api.Point{}) {
			centre = s
		} else if s == 1 {
			number++
		}
	}
	return centre, number
}

// newState returns the new state of a rule by counts for the states of its neighbourhood.
func newState(x api.Totals, in []int) int {
	centre, number := class(x.Hood, in)
	return counted(x, centre, number)
}

// newStates returns the new states of a rule by counts for all states of its neighbourhood, in the order of everyState.
func newStates(x api.Totals) []int {
	var list []int
	for _, in := range everyState(x.States, len(x.Hood)) {
		list = append(list, newState(x, in))
	}
	return list
}

// sameTotals reports whether two rules by counts are equal.
func sameTotals(a, b api.Totals) bool {
	return slices.Equal(a.Hood, b.Hood) && a.States == b.States && slices.Equal(a.Birth, b.Birth) && slices.Equal(a.Survive, b.Survive)
}

// node returns a node with a level and elements.
func node(level int, next ...int) api.Node {
	return api.Node{Level: level, Next: next}
}

// made returns a tree with nodes.
func made(states int, drawing string, nodes ...api.Node) api.Tree {
	return api.Tree{States: states, Hood: drawn(drawing), Nodes: nodes}
}

// rule reads one state after the other and remembers a number. At the end this number leads to the new state.
type rule struct {
	begin int
	read  func(memory, position, state int) int
	end   func(memory int) int
}

// counting is the rule that leads to what a function returns for the state of the centre and the number of neighbours that have one of some
// states.
func counting(l []api.Point, states []int, value func(centre, number int) int) rule {
	return rule{0, func(memory, position, state int) int {
		switch {
		case l[position] == (api.Point{}):
			return memory + 100*state
		case slices.Contains(states, state):
			return memory + 1
		}
		return memory
	}, func(memory int) int { return value(memory/100, memory%100) }}
}

// summing is the rule that leads to what a function returns for the sum of all states.
func summing(value func(sum int) int) rule {
	return rule{0, func(memory, position, state int) int { return memory + state }, value}
}

// following is the rule of a valid tree.
func following(t api.Tree) rule {
	return rule{len(t.Nodes) - 1, func(memory, position, state int) int { return t.Nodes[memory].Next[state] }, func(n int) int { return n }}
}

// value returns the new state of a rule.
func (r rule) value(in []int) int {
	memory := r.begin
	for i, s := range in {
		memory = r.read(memory, i, s)
	}
	return r.end(memory)
}

// tree returns the reduced tree of a rule: a walk from the root on, which numbers a node when it finishes it, unless there is an equal
// one.
func (r rule) tree(states int, l []api.Point) api.Tree {
	t := api.Tree{States: states, Hood: slices.Clone(l)}
	equal, visited := map[string]int{}, map[[2]int]int{}
	var visit func(memory, position int) int
	visit = func(memory, position int) int {
		if position == len(l) {
			return r.end(memory)
		}
		if i, is := visited[[2]int{memory, position}]; is {
			return i
		}
		own := node(len(l) - position)
		for s := range states {
			own.Next = append(own.Next, visit(r.read(memory, position, s), position+1))
		}
		text := fmt.Sprint(own)
		if _, is := equal[text]; !is {
			equal[text] = len(t.Nodes)
			t.Nodes = append(t.Nodes, own)
		}
		visited[[2]int{memory, position}] = equal[text]
		return equal[text]
	}
	visit(r.begin, 0)
	return t
}

// countTree returns the reduced tree of a valid rule by counts.
func countTree(x api.Totals) api.Tree {
	value := func(centre, number int) int { return counted(x, centre, number) }
	return counting(x.Hood, []int{1}, value).tree(x.States, x.Hood)
}

// listed returns the reduced tree whose new states for all states of the neighbourhood are a list, in the order of everyState.
func listed(states int, l []api.Point, list []int) api.Tree {
	t := api.Tree{States: states, Hood: slices.Clone(l)}
	numbers := map[string]int{}
	var visit func(level int, part []int) int
	visit = func(level int, part []int) int {
		if level == 0 {
			return part[0]
		}
		text := fmt.Sprint(level, part)
		if i, is := numbers[text]; is {
			return i
		}
		own := node(level)
		for sub := range slices.Chunk(part, len(part)/states) {
			own.Next = append(own.Next, visit(level-1, sub))
		}
		numbers[text] = len(t.Nodes)
		t.Nodes = append(t.Nodes, own)
		return numbers[text]
	}
	visit(len(l), list)
	return t
}

// everyState returns all lists of n states, in ascending order.
func everyState(states, n int) [][]int {
	all := [][]int{{}}
	for range n {
		var longer [][]int
		for _, l := range all {
			for s := range states {
				longer = append(longer, append(slices.Clone(l), s))
			}
		}
		all = longer
	}
	return all
}

// randomList returns a list of n states.
func randomList(rng *rand.Rand, states, n int) []int {
	l := make([]int, n)
	for i := range l {
		l[i] = rng.Intn(states)
	}
	return l
}

// isReduced reports whether a valid tree is reduced: no two nodes are equal, and a walk from the root on finishes all nodes in the order
// of their numbers.
func isReduced(t api.Tree) bool {
	texts := map[string]bool{}
	for _, own := range t.Nodes {
		texts[fmt.Sprint(own)] = true
	}
	var finished, every []int
	seen := map[int]bool{}
	var walk func(i int)
	walk = func(i int) {
		if seen[i] {
			return
		}
		seen[i] = true
		for _, e := range t.Nodes[i].Next {
			if t.Nodes[i].Level > 1 {
				walk(e)
			}
		}
		finished = append(finished, i)
	}
	walk(len(t.Nodes) - 1)
	for i := range t.Nodes {
		every = append(every, i)
	}
	return len(texts) == len(t.Nodes) && slices.Equal(finished, every)
}

// randomTree returns a valid tree with n nodes or some more, in which there may be equal ones and others that are not needed.
func randomTree(rng *rand.Rand, states int, l []api.Point, n int) api.Tree {
	t := api.Tree{States: states, Hood: slices.Clone(l)}
	before, below := 0, states
	for level := 1; level <= len(l); level++ {
		base, number := len(t.Nodes), max(1, n/len(l))
		for range number {
			own := node(level)
			for range states {
				own.Next = append(own.Next, before+rng.Intn(below))
			}
			t.Nodes = append(t.Nodes, own)
		}
		before, below = base, number
	}
	return t
}

// grown returns a valid tree with n nodes and the same new states as a given one: each of its nodes may be there several times, with any
// of the nodes that are there for its elements.
func grown(rng *rand.Rand, t api.Tree, n int) api.Tree {
	longer := api.Tree{States: t.States, Hood: slices.Clone(t.Hood)}
	times := slices.Repeat([]int{1}, len(t.Nodes))
	for range n - len(t.Nodes) {
		times[rng.Intn(len(times))]++
	}
	copies := make([][]int, len(t.Nodes))
	for i, old := range t.Nodes {
		for range times[i] {
			own := node(old.Level)
			for _, e := range old.Next {
				if old.Level > 1 {
					e = copies[e][rng.Intn(len(copies[e]))]
				}
				own.Next = append(own.Next, e)
			}
			copies[i] = append(copies[i], len(longer.Nodes))
			longer.Nodes = append(longer.Nodes, own)
		}
	}
	return longer
}

// inserted returns a tree with another node at an index. The other nodes continue as before.
func inserted(t api.Tree, at int, own api.Node) api.Tree {
	t = laidOut(t)
	for _, other := range t.Nodes {
		for i, e := range other.Next {
			if other.Level > 1 && e >= at {
				other.Next[i]++
			}
		}
	}
	t.Nodes = slices.Insert(t.Nodes, at, own)
	return t
}

// byLevel returns a valid tree with its nodes in another order: by their levels.
func byLevel(t api.Tree) api.Tree {
	t = laidOut(t)
	old, numbers := slices.Clone(t.Nodes), make([]int, len(t.Nodes))
	t.Nodes = nil
	for level := 1; level <= len(t.Hood); level++ {
		for i, own := range old {
			if own.Level != level {
				continue
			}
			for k, e := range own.Next {
				if level > 1 {
					own.Next[k] = numbers[e]
				}
			}
			numbers[i] = len(t.Nodes)
			t.Nodes = append(t.Nodes, own)
		}
	}
	return t
}

// changedAt returns a tree that leads to a state s for some states of the neighbourhood, and otherwise to what a valid tree leads to: the
// nodes on the way to this new state are there once more, behind the others.
func changedAt(t api.Tree, in []int, s int) api.Tree {
	t = laidOut(t)
	way := []int{len(t.Nodes) - 1}
	for _, state := range in[:len(in)-1] {
		way = append(way, t.Nodes[way[len(way)-1]].Next[state])
	}
	for i := len(in) - 1; i >= 0; i-- {
		own := node(len(in)-i, slices.Clone(t.Nodes[way[i]].Next)...)
		own.Next[in[i]] = s
		s = len(t.Nodes)
		t.Nodes = append(t.Nodes, own)
	}
	return t
}

// sameTree reports whether two trees are equal, node by node.
func sameTree(a, b api.Tree) bool {
	return a.States == b.States && slices.Equal(a.Hood, b.Hood) && slices.EqualFunc(a.Nodes, b.Nodes, func(x, y api.Node) bool {
		return x.Level == y.Level && slices.Equal(x.Next, y.Next)
	})
}

// checkTree compares a tree and an error with the expected ones, and checks that the tree is reduced, or the zero value with an error. The
// call that returned them is told for messages.
func checkTree(t *testing.T, got api.Tree, e api.Errno, want api.Tree, wanted api.Errno, call ...any) {
	t.Helper()
	if !sameTree(got, want) || e != wanted {
		t.Errorf("%v is %s with the error %d, not %s with %d", call, show(got), e, show(want), wanted)
	}
	if e == api.OK && (!tree.Right(got) || !isReduced(got)) {
		t.Errorf("%v is %s, which is not valid, or not reduced", call, show(got))
	}
}

// checkNewTree writes into each list of a tree that a call returned, and behind it, and checks that nothing else changes: no other list of
// the tree, and no tree that the same call returns.
func checkNewTree(t *testing.T, call func() (api.Tree, api.Errno)) {
	t.Helper()
	got, e := call()
	if e != api.OK {
		t.Fatalf("the error is %d", e)
	}
	want, again := laidOut(got), laidOut(got)
	for i := range got.Nodes {
		fill(got.Nodes[i].Next, 99)
		want.Nodes[i].Next = slices.Repeat([]int{99}, got.States)
		if !sameTree(got, want) {
			t.Errorf("the node %d of %s shares memory", i, show(got))
		}
	}
	fill(got.Hood, api.Point{X: 99})
	fill(got.Nodes, node(99))
	got, e = call()
	checkTree(t, got, e, again, api.OK, "the tree of the same call")
}

// laid returns a list in new memory, in which two elements follow it; a list that is nil remains so.
func laid[E any](l []E, behind E) []E {
	if l == nil {
		return nil
	}
	longer := append(slices.Clone(l), behind, behind)
	return longer[: len(l) : len(l)+2]
}

// laidOut returns a tree whose lists, at each depth, are new memory that goes on behind them.
func laidOut(t api.Tree) api.Tree {
	t.Hood = laid(t.Hood, api.Point{X: 77, Y: -77})
	t.Nodes = laid(t.Nodes, node(77, -77))
	for i := range t.Nodes {
		t.Nodes[i].Next = laid(t.Nodes[i].Next, 77)
	}
	return t
}

// whole returns a tree whose lists, at each depth, contain what lies behind them in memory.
func whole(t api.Tree) api.Tree {
	t.Hood = t.Hood[:cap(t.Hood)]
	t.Nodes = slices.Clone(t.Nodes[:cap(t.Nodes)])
	for i := range t.Nodes {
		t.Nodes[i].Next = t.Nodes[i].Next[:cap(t.Nodes[i].Next)]
	}
	return t
}

// laidTotals returns a rule by counts whose lists are new memory that goes on behind them.
func laidTotals(x api.Totals) api.Totals {
	return api.Totals{
		Hood:    laid(x.Hood, api.Point{X: 77, Y: -77}),
		States:  x.States,
		Birth:   laid(x.Birth, 77),
		Survive: laid(x.Survive, 78),
	}
}

// wholeTotals returns a rule by counts whose lists contain what lies behind them in memory.
func wholeTotals(x api.Totals) api.Totals {
	return api.Totals{
		Hood:    x.Hood[:cap(x.Hood)],
		States:  x.States,
		Birth:   x.Birth[:cap(x.Birth)],
		Survive: x.Survive[:cap(x.Survive)],
	}
}

// fill sets all elements of a list and those that its memory has behind them.
func fill[E any](l []E, e E) {
	l = l[:cap(l)]
	for i := range l {
		l[i] = e
	}
}

// show returns the beginning of what a tree contains, for messages.
func show(t api.Tree) string {
	t.Hood = t.Hood[:min(len(t.Hood), 30)]
	t.Nodes = t.Nodes[:min(len(t.Nodes), 40)]
	s := fmt.Sprintf("%+v", t)
	return s[:min(len(s), 600)]
}
