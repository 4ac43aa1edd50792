package tree_test

import (
	"fmt"
	"math"
	"math/rand"
	"slices"
	"strings"
	"testing"

	"cellular/api"
)

// The tests compare package tree with a model that keeps the elements that a node of each level may have in sets, writes down the new
// states of a node for all states of the positions that it reads, and makes reduced trees of rules that read one state after the
// other.

// ints are numbers at the limits of int, of states, of levels, of offsets and of indices of nodes, and some that are small ones in 8
// or 32 bits.
var ints = []int{
	math.MinInt, math.MinInt + 1, math.MinInt + 2, -1<<32 - 1, -1 << 32, -1<<32 + 1, -4097, -4096, -257, -256, -255, -26, -25, -9, -8,
	-4, -3, -2, -1, 0, 1, 2, 3, 4, 5, 6, 7, 8, 9, 10, 24, 25, 26, 255, 256, 257, 258, 259, 4095, 4096, 4097, 1<<32 - 1, 1 << 32,
	1<<32 + 1, 1<<32 + 2, 1<<32 + 3, math.MaxInt - 1, math.MaxInt,
}

// Drawings of neighbourhoods.
const (
	single  = "o"
	beside  = "... ..o ..."
	left    = "... oo. ..."
	line    = "... ooo ..."
	far     = "o...o ..... ..... ..... o...."
	neumann = ".o. ooo .o."
	hex     = "oo. ooo .oo"
	moore   = "ooo ooo ooo"
	diamond = "..o.. .ooo. ooooo .ooo. ..o.."
	square  = "ooooo ooooo ooooo ooooo ooooo"
)

// small are neighbourhoods of one offset to five, and large are ones of up to MaxHood.
var (
	small = []string{single, beside, left, line, far, neumann}
	large = []string{hex, moore, diamond, square}
)

// drawn returns the offsets of a drawing, in whose middle is the centre.
func drawn(drawing string) []api.Point {
	var l []api.Point
	rows := strings.Fields(drawing)
	for y, row := range rows {
		for x, c := range row {
			if c == 'o' {
				l = append(l, api.Point{X: x - len(rows)/2, Y: y - len(rows)/2})
			}
		}
	}
	return l
}

// isHood reports whether a list is a valid neighbourhood: not empty, and the same as all offsets that it contains, in order.
func isHood(l []api.Point) bool {
	had := slices.DeleteFunc(drawn(square), func(p api.Point) bool { return !slices.Contains(l, p) })
	return len(l) > 0 && slices.Equal(had, l)
}

// wrongHoods returns lists of offsets that are no valid neighbourhoods.
func wrongHoods() [][]api.Point {
	list := [][]api.Point{
		nil, {},
		// Not in order, by X and by Y.
		{{X: 1}, {}}, {{Y: 1}, {}}, {{X: -1}, {X: 1}, {}}, {{}, {X: -1}, {X: 1}}, {{X: -1, Y: 1}, {X: 1}}, {{X: 2, Y: 2}, {X: -2, Y: -2}},
		// An offset twice, side by side and apart.
		{{}, {}}, {{X: -1}, {}, {}, {X: 1}}, {{X: -1}, {}, {X: -1}}, {{X: -2, Y: -2}, {X: -2, Y: -2}, {X: 2, Y: 2}},
		// Beyond the greatest radius, at the beginning, in between and at the end.
		{{X: -3}}, {{X: 3}}, {{Y: -3}}, {{Y: 3}}, {{Y: -3}, {}, {X: 1}}, {{X: -3}, {}, {X: 1}}, {{Y: -1}, {X: 3, Y: -1}, {}},
		{{}, {X: 1}, {X: 3}}, {{}, {X: 1}, {Y: 3}}, {{X: math.MinInt}, {}}, {{}, {X: math.MaxInt}}, {{Y: math.MinInt}}, {{Y: math.MaxInt}},
		{{X: 1 << 32}}, {{X: 256, Y: 256}},
	}
	// There are only MaxHood offsets within the greatest radius, so a longer list has another one, or one of them twice.
	every := drawn(square)
	for _, p := range []api.Point{{X: 2, Y: 2}, {}, {X: 3, Y: 2}, {Y: 3}} {
		list = append(list, append(slices.Clone(every), p))
	}
	return append(list, slices.Insert(slices.Clone(every), 0, api.Point{Y: -3}), slices.Insert(slices.Clone(every), 13, api.Point{}),
		slices.Repeat(every, 2), make([]api.Point, 26), make([]api.Point, 1000))
}

// node returns a node with a level and elements.
func node(level int, next ...int) api.Node {
	return api.Node{Level: level, Next: next}
}

// rightModel reports whether a tree is valid.
func rightModel(t api.Tree) bool {
	if !slices.Contains([]int{2, 3, 4, 5, 6, 7, 8}, t.States) || !isHood(t.Hood) || len(t.Nodes) == 0 || len(t.Nodes) > 4096 {
		return false
	}
	// may has the elements of the nodes of the level 1, then those of the level 2, and so on; the last ones are the possible roots.
	may := []map[int]bool{{}}
	for range t.Hood {
		may = append(may, map[int]bool{})
	}
	for s := range t.States {
		may[0][s] = true
	}
	for i, own := range t.Nodes {
		if own.Level <= 0 || own.Level >= len(may) || len(own.Next) != t.States {
			return false
		}
		if slices.ContainsFunc(own.Next, func(e int) bool { return !may[own.Level-1][e] }) {
			return false
		}
		may[own.Level][i] = true
	}
	return may[len(t.Hood)][len(t.Nodes)-1]
}

// newStates returns the new states of a valid tree for all states of its neighbourhood, in the order of everyState.
func newStates(t api.Tree) []int {
	var of [][]int
	for _, own := range t.Nodes {
		var l []int
		for _, e := range own.Next {
			if own.Level == 1 {
				l = append(l, e)
			} else {
				l = append(l, of[e]...)
			}
		}
		of = append(of, l)
	}
	return of[len(of)-1]
}

// followed returns the new state to which a node of a valid tree leads, for the states of the positions that it reads.
func followed(t api.Tree, own api.Node, in []int) int {
	if len(in) == 1 {
		return own.Next[in[0]]
	}
	return followed(t, t.Nodes[own.Next[in[0]]], in[1:])
}

// evalModel returns what Eval has to return.
func evalModel(t api.Tree, in []int) (int, api.Errno) {
	switch {
	case !rightModel(t):
		return 0, api.ErrRule
	case len(in) != len(t.Hood):
		return 0, api.ErrArg
	case slices.ContainsFunc(in, func(s int) bool { return s < 0 || s > t.States-1 }):
		return 0, api.ErrState
	}
	return followed(t, t.Nodes[len(t.Nodes)-1], in), api.OK
}

// quietModel returns what Quiet has to return.
func quietModel(t api.Tree) bool {
	return rightModel(t) && followed(t, t.Nodes[len(t.Nodes)-1], make([]int, len(t.Hood))) == 0
}

// sizeModel returns what Size has to return.
func sizeModel(t api.Tree) []int {
	var sizes []int
	for i := range t.Hood {
		others := slices.DeleteFunc(slices.Clone(t.Nodes), func(own api.Node) bool { return own.Level == i+1 })
		sizes = append(sizes, len(t.Nodes)-len(others))
	}
	if !rightModel(t) {
		return nil
	}
	return sizes
}

// rule reads one state after the other and remembers a number. What it remembers at the end is the new state.
type rule struct {
	begin int
	read  func(memory, position, state int) int
}

// always is the rule that leads to a state whatever it reads.
func always(s int) rule {
	return rule{s, func(memory, position, state int) int { return memory }}
}

// reading is the rule that leads to the state of a position.
func reading(k int) rule {
	return rule{0, func(memory, position, state int) int {
		if position == k {
			return state
		}
		return memory
	}}
}

// summing is the rule that leads to the sum of all states, modulo their number.
func summing(states int) rule {
	return rule{0, func(memory, position, state int) int { return (memory + state) % states }}
}

// randomRule returns a rule that remembers one of a few numbers.
func randomRule(rng *rand.Rand, states, positions int) rule {
	few := rng.Intn(states) + 1
	next := make([]int, positions*states*states)
	for i := range next {
		next[i] = rng.Intn(few)
	}
	return rule{0, func(memory, position, state int) int { return next[(position*states+memory)*states+state] }}
}

// value returns the new state of a rule.
func (r rule) value(in []int) int {
	memory := r.begin
	for i, s := range in {
		memory = r.read(memory, i, s)
	}
	return memory
}

// tree returns the reduced tree of a rule, for any list of offsets: a walk from the root on, which numbers a node when it finishes it,
// unless there is an equal one.
func (r rule) tree(states int, l []api.Point) api.Tree {
	t := api.Tree{States: states, Hood: slices.Clone(l)}
	equal, visited := map[string]int{}, map[[2]int]int{}
	var visit func(memory, position int) int
	visit = func(memory, position int) int {
		if position == len(l) {
			return memory
		}
		if i, is := visited[[2]int{memory, position}]; is {
			return i
		}
		own := node(len(l) - position)
		for s := range states {
			own.Next = append(own.Next, visit(r.read(memory, position, s), position+1))
		}
		text := fmt.Sprint(own)
		if _, is := equal[text]; !is {
			equal[text] = len(t.Nodes)
			t.Nodes = append(t.Nodes, own)
		}
		visited[[2]int{memory, position}] = equal[text]
		return equal[text]
	}
	visit(r.begin, 0)
	return t
}

// isReduced reports whether a valid tree is reduced: no two nodes are equal, and a walk from the root on finishes all nodes in the order
// of their numbers.
func isReduced(t api.Tree) bool {
	texts := map[string]bool{}
	for _, own := range t.Nodes {
		texts[fmt.Sprint(own)] = true
	}
	var finished, every []int
	seen := map[int]bool{}
	var walk func(i int)
	walk = func(i int) {
		if seen[i] {
			return
		}
		seen[i] = true
		for _, e := range t.Nodes[i].Next {
			if t.Nodes[i].Level > 1 {
				walk(e)
			}
		}
		finished = append(finished, i)
	}
	walk(len(t.Nodes) - 1)
	for i := range t.Nodes {
		every = append(every, i)
	}
	return len(texts) == len(t.Nodes) && slices.Equal(finished, every)
}

// randomTree returns a valid tree with up to about n nodes, in which there may be equal ones and others that are not needed.
func randomTree(rng *rand.Rand, states int, l []api.Point, n int) api.Tree {
	t := api.Tree{States: states, Hood: slices.Clone(l)}
	may := make([][]int, len(l)+1)
	for s := range states {
		may[0] = append(may[0], s)
	}
	add := func(level int) {
		own := node(level)
		for range states {
			own.Next = append(own.Next, may[level-1][rng.Intn(len(may[level-1]))])
		}
		may[level] = append(may[level], len(t.Nodes))
		t.Nodes = append(t.Nodes, own)
	}
	for range n {
		if level := rng.Intn(len(l)) + 1; len(may[level-1]) > 0 {
			add(level)
		}
	}
	for level := 1; level < len(l); level++ {
		if len(may[level]) == 0 {
			add(level)
		}
	}
	add(len(l))
	return t
}

// largestTree returns a random tree with the greatest numbers of states, of levels and of nodes. The root is equal to an earlier node.
func largestTree(rng *rand.Rand) api.Tree {
	t := randomTree(rng, 8, drawn(square), 9000)
	t.Nodes = t.Nodes[:4096]
	first := slices.IndexFunc(t.Nodes, func(own api.Node) bool { return own.Level == 25 })
	t.Nodes[4095] = node(25, t.Nodes[first].Next...)
	return t
}

// inserted returns a tree with another node at an index. The other nodes continue as before.
func inserted(t api.Tree, at int, own api.Node) api.Tree {
	t = laidOut(t)
	for _, other := range t.Nodes {
		for i, e := range other.Next {
			if other.Level > 1 && e >= at {
				other.Next[i]++
			}
		}
	}
	t.Nodes = slices.Insert(t.Nodes, at, own)
	return t
}

// reordered returns a valid tree with its nodes in another order, of which the last one is the root still.
func reordered(rng *rand.Rand, t api.Tree) api.Tree {
	t = laidOut(t)
	old, number := slices.Clone(t.Nodes), map[int]int{}
	for len(number) < len(old)-1 {
		i := rng.Intn(len(old) - 1)
		waits := func(e int) bool { _, is := number[e]; return !is }
		if _, is := number[i]; !is && (old[i].Level == 1 || !slices.ContainsFunc(old[i].Next, waits)) {
			number[i] = len(number)
		}
	}
	number[len(old)-1] = len(old) - 1
	for i, own := range old {
		t.Nodes[number[i]] = own
		for k, e := range own.Next {
			if own.Level > 1 {
				own.Next[k] = number[e]
			}
		}
	}
	return t
}

// everyState returns all lists of n states, in ascending order.
func everyState(states, n int) [][]int {
	all := [][]int{{}}
	for range n {
		var longer [][]int
		for _, l := range all {
			for s := range states {
				longer = append(longer, append(slices.Clone(l), s))
			}
		}
		all = longer
	}
	return all
}

// someStates returns all lists of n states, if there are few, or random ones and those in which all states but one are equal.
func someStates(rng *rand.Rand, states, n int) [][]int {
	if n*states <= 20 && n <= 5 {
		return everyState(states, n)
	}
	var list [][]int
	for s := range states {
		for i := range n {
			l := slices.Repeat([]int{s}, n)
			l[i] = (s + 1) % states
			list = append(list, l)
		}
		list = append(list, slices.Repeat([]int{s}, n))
	}
	for range 50 {
		l := make([]int, n)
		for i := range l {
			l[i] = rng.Intn(states)
		}
		list = append(list, l)
	}
	return list
}

// numbers returns all numbers of a tree, each list behind its length.
func numbers(t api.Tree) []int {
	l := []int{t.States, len(t.Hood), len(t.Nodes)}
	for _, p := range t.Hood {
		l = append(l, p.X, p.Y)
	}
	for _, own := range t.Nodes {
		l = append(append(l, own.Level, len(own.Next)), own.Next...)
	}
	return l
}

// sameModel reports whether two trees are equal.
func sameModel(a, b api.Tree) bool {
	return slices.Equal(numbers(a), numbers(b))
}

// isZero reports whether a tree is the zero value.
func isZero(t api.Tree) bool {
	return sameModel(t, api.Tree{})
}

// laid returns a list in new memory, in which two elements follow it; a list that is nil remains so.
func laid[E any](l []E, behind E) []E {
	if l == nil {
		return nil
	}
	longer := append(slices.Clone(l), behind, behind)
	return longer[: len(l) : len(l)+2]
}

// laidOut returns a tree whose lists, at each depth, are new memory that goes on behind them.
func laidOut(t api.Tree) api.Tree {
	t.Hood = laid(t.Hood, api.Point{X: 77, Y: -77})
	t.Nodes = laid(t.Nodes, node(77, -77))
	for i := range t.Nodes {
		t.Nodes[i].Next = laid(t.Nodes[i].Next, 77)
	}
	return t
}

// whole returns a tree whose lists, at each depth, contain what lies behind them in memory.
func whole(t api.Tree) api.Tree {
	t.Hood = t.Hood[:cap(t.Hood)]
	t.Nodes = slices.Clone(t.Nodes[:cap(t.Nodes)])
	for i := range t.Nodes {
		t.Nodes[i].Next = t.Nodes[i].Next[:cap(t.Nodes[i].Next)]
	}
	return t
}

// unchanged runs a call with a tree and a list, and checks that it left both, and what lies behind them in memory, as they were.
func unchanged(t *testing.T, own api.Tree, in []int, call func(own api.Tree, in []int)) {
	t.Helper()
	given, list := laidOut(own), laid(in, 77)
	call(given, list)
	want, wanted := laidOut(own), laid(in, 77)
	if !sameModel(whole(given), whole(want)) || !sameModel(given, own) {
		t.Errorf("a call changed the tree %s", show(own))
	}
	if !slices.Equal(list[:cap(list)], wanted[:cap(wanted)]) {
		t.Errorf("a call changed the states %v", begin(fmt.Sprint(in)))
	}
}

// hoodUnchanged runs a call with a list of offsets, and checks that it left the list, and what lies behind it in memory, as it was.
func hoodUnchanged(t *testing.T, l []api.Point, call func(l []api.Point)) {
	t.Helper()
	unchanged(t, api.Tree{Hood: l}, nil, func(own api.Tree, _ []int) { call(own.Hood) })
}

// show returns the beginning of what a tree contains, for messages.
func show(t api.Tree) string {
	t.Hood = t.Hood[:min(len(t.Hood), 30)]
	t.Nodes = t.Nodes[:min(len(t.Nodes), 40)]
	return begin(fmt.Sprintf("%+v", t))
}

// begin returns the beginning of a text, for messages.
func begin(s string) string {
	return s[:min(len(s), 600)]
}
