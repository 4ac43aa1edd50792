package reduce_test

import (
	"cmp"
	"fmt"
	"math"
	"math/rand"
	"slices"
	"strings"
	"testing"

	"cellular/api"
	"cellular/tree"
)

// The tests compare package reduce with a model of rules that read one state after the other and remember a number: a reduced tree is
// made by a walk over all numbers that such a rule may remember. For small neighbourhoods another model writes down all new states, and
// has a node for each different part of this list.

// ints are numbers at the limits of int, of states, of indices of a neighbourhood and of symmetries, and some that are small ones in 8 or
// 32 bits.
var ints = []int{
	math.MinInt, math.MinInt + 1, math.MinInt + 2, -1<<32 - 1, -1 << 32, -1<<32 + 1, -257, -256, -255, -26, -25, -24, -9, -8, -7, -4, -3, -2,
	-1, 0, 1, 2, 3, 4, 5, 6, 7, 8, 9, 10, 24, 25, 26, 255, 256, 257, 258, 1<<32 - 1, 1 << 32, 1<<32 + 1, 1<<32 + 2, math.MaxInt - 1,
	math.MaxInt,
}

// Drawings of neighbourhoods.
const (
	single  = "o"
	beside  = "... ..o ..."
	left    = "... oo. ..."
	corner  = "... .oo .o."
	line    = "... ooo ..."
	apart   = "..... ..... o...o ..... ...o."
	far     = "o...o ..... ..... ..... o...."
	row     = "..... ..... ooooo ..... ....."
	neumann = ".o. ooo .o."
	hex     = "oo. ooo .oo"
	ring    = "ooo o.o ooo"
	moore   = "ooo ooo ooo"
	diamond = "..o.. .ooo. ooooo .ooo. ..o.."
	square  = "ooooo ooooo ooooo ooooo ooooo"
)

// tiny are neighbourhoods for which all states can be visited for each number of states, small are ones of up to five offsets, and large
// are ones of up to MaxHood.
var (
	tiny  = []string{single, beside, left, corner, line, apart, far}
	small = append(slices.Clone(tiny), row, neumann)
	large = []string{hex, ring, moore, diamond, square}
	all   = append(slices.Clone(small), large...)
)

// drawn returns the offsets of a drawing, in whose middle is the centre.
func drawn(drawing string) []api.Point {
	var l []api.Point
	rows := strings.Fields(drawing)
	for y, row := range rows {
		for x, c := range row {
			if c == 'o' {
				l = append(l, api.Point{X: x - len(rows)/2, Y: y - len(rows)/2})
			}
		}
	}
	return l
}

// node returns a node with a level and elements.
func node(level int, next ...int) api.Node {
	return api.Node{Level: level, Next: next}
}

// made returns a tree with nodes.
func made(states int, drawing string, nodes ...api.Node) api.Tree {
	return api.Tree{States: states, Hood: drawn(drawing), Nodes: nodes}
}

// rule reads one state after the other and remembers a number. At the end this number leads to the new state.
type rule struct {
	begin int
	read  func(memory, position, state int) int
	end   func(memory int) int
}

// same returns a number itself.
func same(n int) int {
	return n
}

// always is the rule that leads to a state whatever it reads.
func always(s int) rule {
	return rule{s, func(memory, position, state int) int { return memory }, same}
}

// reading is the rule that leads to the state of a position.
func reading(k int) rule {
	return rule{0, func(memory, position, state int) int {
		if position == k {
			return state
		}
		return memory
	}, same}
}

// summing is the rule that leads to the sum of all states, modulo their number.
func summing(states int) rule {
	return rule{0, func(memory, position, state int) int { return (memory + state) % states }, same}
}

// picking is the rule that leads to what a function returns for the states of some positions, in ascending order.
func picking(states int, positions []int, value func(in []int) int) rule {
	return rule{0, func(memory, position, state int) int {
		if !slices.Contains(positions, position) {
			return memory
		}
		memory = memory*states + state
		if position < slices.Max(positions) {
			return memory
		}
		in := make([]int, len(positions))
		for i := len(in) - 1; i >= 0; i-- {
			in[i] = memory % states
			memory /= states
		}
		return value(in)
	}, same}
}

// randomRule returns a random rule that remembers a state, or one of fewer numbers.
func randomRule(rng *rand.Rand, states, positions int) rule {
	return remembering(rng, rng.Intn(states)+1, states, positions)
}

// remembering returns a random rule that remembers one of a few numbers.
func remembering(rng *rand.Rand, few, states, positions int) rule {
	next := make([]int, positions*few*states)
	for i := range next {
		next[i] = rng.Intn(few)
	}
	return rule{0, func(memory, position, state int) int { return next[(position*few+memory)*states+state] }, same}
}

// following is the rule of a valid tree.
func following(t api.Tree) rule {
	return rule{len(t.Nodes) - 1, func(memory, position, state int) int { return t.Nodes[memory].Next[state] }, same}
}

// mapped is the rule that leads to to[s] where another one leads to s.
func mapped(r rule, to []int) rule {
	return rule{r.begin, r.read, func(memory int) int { return to[r.end(memory)] }}
}

// fixed is the rule that reads a state at a position whatever is there.
func fixed(r rule, k, s int) rule {
	return rule{r.begin, func(memory, position, state int) int {
		if position == k {
			state = s
		}
		return r.read(memory, position, state)
	}, r.end}
}

// chosen is the rule that leads to the new state of that rule of a list to whose index another one leads.
func chosen(by rule, l []rule) rule {
	every := append([]rule{by}, l...)
	var memories [][]int
	numbers := map[string]int{}
	number := func(memory []int) int {
		text := fmt.Sprint(memory)
		if _, is := numbers[text]; !is {
			numbers[text] = len(memories)
			memories = append(memories, memory)
		}
		return numbers[text]
	}
	var begin []int
	for _, r := range every {
		begin = append(begin, r.begin)
	}
	return rule{number(begin), func(memory, position, state int) int {
		next := slices.Clone(memories[memory])
		for i, r := range every {
			next[i] = r.read(next[i], position, state)
		}
		return number(next)
	}, func(memory int) int {
		s := by.end(memories[memory][0])
		return l[s].end(memories[memory][s+1])
	}}
}

// value returns the new state of a rule.
func (r rule) value(in []int) int {
	memory := r.begin
	for i, s := range in {
		memory = r.read(memory, i, s)
	}
	return r.end(memory)
}

// tree returns the reduced tree of a rule: a walk from the root on, which numbers a node when it finishes it, unless there is an equal
// one.
func (r rule) tree(states int, l []api.Point) api.Tree {
	t := api.Tree{States: states, Hood: slices.Clone(l)}
	equal, visited := map[string]int{}, map[[2]int]int{}
	var visit func(memory, position int) int
	visit = func(memory, position int) int {
		if position == len(l) {
			return r.end(memory)
		}
		if i, is := visited[[2]int{memory, position}]; is {
			return i
		}
		own := node(len(l) - position)
		for s := range states {
			own.Next = append(own.Next, visit(r.read(memory, position, s), position+1))
		}
		text := fmt.Sprint(own)
		if _, is := equal[text]; !is {
			equal[text] = len(t.Nodes)
			t.Nodes = append(t.Nodes, own)
		}
		visited[[2]int{memory, position}] = equal[text]
		return equal[text]
	}
	visit(r.begin, 0)
	return t
}

// reduced returns the reduced tree with the same new states as a valid one.
func reduced(t api.Tree) api.Tree {
	return following(t).tree(t.States, t.Hood)
}

// limited returns a tree, or the zero value and ErrSize if it has too many nodes.
func limited(t api.Tree) (api.Tree, api.Errno) {
	if len(t.Nodes) > 4096 {
		return api.Tree{}, api.ErrSize
	}
	return t, api.OK
}

// listed returns the reduced tree whose new states for all states of the neighbourhood are a list, in the order of everyState.
func listed(states int, l []api.Point, list []int) api.Tree {
	t := api.Tree{States: states, Hood: slices.Clone(l)}
	numbers := map[string]int{}
	var visit func(level int, part []int) int
	visit = func(level int, part []int) int {
		if level == 0 {
			return part[0]
		}
		text := fmt.Sprint(level, part)
		if i, is := numbers[text]; is {
			return i
		}
		own := node(level)
		for sub := range slices.Chunk(part, len(part)/states) {
			own.Next = append(own.Next, visit(level-1, sub))
		}
		numbers[text] = len(t.Nodes)
		t.Nodes = append(t.Nodes, own)
		return numbers[text]
	}
	visit(len(l), list)
	return t
}

// followed returns the new state of a valid tree for the states of its neighbourhood.
func followed(t api.Tree, in []int) int {
	return following(t).value(in)
}

// valuesOf returns the new states of a valid tree for all states of its neighbourhood, in the order of everyState.
func valuesOf(t api.Tree) []int {
	var list []int
	for _, in := range everyState(t.States, len(t.Hood)) {
		list = append(list, followed(t, in))
	}
	return list
}

// isReduced reports whether a valid tree is reduced: no two nodes are equal, and a walk from the root on finishes all nodes in the order
// of their numbers.
func isReduced(t api.Tree) bool {
	texts := map[string]bool{}
	for _, own := range t.Nodes {
		texts[fmt.Sprint(own)] = true
	}
	var finished, every []int
	seen := map[int]bool{}
	var walk func(i int)
	walk = func(i int) {
		if seen[i] {
			return
		}
		seen[i] = true
		for _, e := range t.Nodes[i].Next {
			if t.Nodes[i].Level > 1 {
				walk(e)
			}
		}
		finished = append(finished, i)
	}
	walk(len(t.Nodes) - 1)
	for i := range t.Nodes {
		every = append(every, i)
	}
	return len(texts) == len(t.Nodes) && slices.Equal(finished, every)
}

// randomTree returns a valid tree with up to about n nodes, in which there may be equal ones and others that are not needed.
func randomTree(rng *rand.Rand, states int, l []api.Point, n int) api.Tree {
	t := api.Tree{States: states, Hood: slices.Clone(l)}
	may := make([][]int, len(l)+1)
	for s := range states {
		may[0] = append(may[0], s)
	}
	add := func(level int) {
		own := node(level)
		for range states {
			own.Next = append(own.Next, may[level-1][rng.Intn(len(may[level-1]))])
		}
		may[level] = append(may[level], len(t.Nodes))
		t.Nodes = append(t.Nodes, own)
	}
	for range n {
		if level := rng.Intn(len(l)) + 1; len(may[level-1]) > 0 {
			add(level)
		}
	}
	for level := 1; level < len(l); level++ {
		if len(may[level]) == 0 {
			add(level)
		}
	}
	add(len(l))
	return t
}

// widest returns a random reduced tree with n nodes, which has the greatest numbers of states and of levels.
func widest(rng *rand.Rand, n int) api.Tree {
	t := api.Tree{States: 8, Hood: drawn(square)}
	before, below := 0, 8 // The numbers of the nodes of the level below.
	for level := 1; level <= 25; level++ {
		number := (n - 73) / 22
		switch level {
		case 1:
			number += (n - 73) % 22
		case 23:
			number = 64
		case 24:
			number = 8
		case 25:
			number = 1
		}
		base := len(t.Nodes)
		for i := range number {
			own := node(level)
			for k := range 8 {
				// Each node of the level below is an element, and the others are random ones.
				e := i*8 + k
				if e >= below {
					e = rng.Intn(below)
				}
				own.Next = append(own.Next, before+e)
			}
			t.Nodes = append(t.Nodes, own)
		}
		before, below = base, number
	}
	return reduced(t)
}

// grown returns a valid tree with n nodes and the same new states as a given one: each of its nodes may be there several times, with any
// of the nodes that are there for its elements.
func grown(rng *rand.Rand, t api.Tree, n int) api.Tree {
	longer := api.Tree{States: t.States, Hood: slices.Clone(t.Hood)}
	times := slices.Repeat([]int{1}, len(t.Nodes))
	for range n - len(t.Nodes) {
		times[rng.Intn(len(times))]++
	}
	copies := make([][]int, len(t.Nodes))
	for i, old := range t.Nodes {
		for range times[i] {
			own := node(old.Level)
			for _, e := range old.Next {
				if old.Level > 1 {
					e = copies[e][rng.Intn(len(copies[e]))]
				}
				own.Next = append(own.Next, e)
			}
			copies[i] = append(copies[i], len(longer.Nodes))
			longer.Nodes = append(longer.Nodes, own)
		}
	}
	return longer
}

// inserted returns a tree with another node at an index. The other nodes continue as before.
func inserted(t api.Tree, at int, own api.Node) api.Tree {
	t = laidOut(t)
	for _, other := range t.Nodes {
		for i, e := range other.Next {
			if other.Level > 1 && e >= at {
				other.Next[i]++
			}
		}
	}
	t.Nodes = slices.Insert(t.Nodes, at, own)
	return t
}

// reordered returns a valid tree with its nodes in another order, of which the last one is the root still.
func reordered(rng *rand.Rand, t api.Tree) api.Tree {
	t = laidOut(t)
	old, number := slices.Clone(t.Nodes), map[int]int{}
	for len(number) < len(old)-1 {
		i := rng.Intn(len(old) - 1)
		waits := func(e int) bool { _, is := number[e]; return !is }
		if _, is := number[i]; !is && (old[i].Level == 1 || !slices.ContainsFunc(old[i].Next, waits)) {
			number[i] = len(number)
		}
	}
	number[len(old)-1] = len(old) - 1
	for i, own := range old {
		t.Nodes[number[i]] = own
		for k, e := range own.Next {
			if own.Level > 1 {
				own.Next[k] = number[e]
			}
		}
	}
	return t
}

// other returns a tree with the same new states as a given one, but with other nodes.
func other(rng *rand.Rand, t api.Tree) api.Tree {
	t = grown(rng, t, len(t.Nodes)+rng.Intn(10))
	t = inserted(t, rng.Intn(len(t.Nodes)), node(1, make([]int, t.States)...))
	return reordered(rng, t)
}

// image returns the position to which a symmetry maps another one.
func image(k int, p api.Point) api.Point {
	k = (k%8 + 8) % 8
	if k >= 4 {
		p.X = -p.X
	}
	for range k % 4 {
		p = api.Point{X: -p.Y, Y: p.X}
	}
	return p
}

// imagesOf returns the offsets to which a symmetry maps a neighbourhood, in order, and the index of the image of each offset.
func imagesOf(k int, l []api.Point) ([]api.Point, []int) {
	var images []api.Point
	var at []int
	for _, p := range l {
		images = append(images, image(k, p))
	}
	slices.SortFunc(images, func(a, b api.Point) int { return cmp.Or(cmp.Compare(a.Y, b.Y), cmp.Compare(a.X, b.X)) })
	for _, p := range l {
		at = append(at, slices.Index(images, image(k, p)))
	}
	return images, at
}

// everyState returns all lists of n states, in ascending order.
func everyState(states, n int) [][]int {
	all := [][]int{{}}
	for range n {
		var longer [][]int
		for _, l := range all {
			for s := range states {
				longer = append(longer, append(slices.Clone(l), s))
			}
		}
		all = longer
	}
	return all
}

// randomList returns a list of n states.
func randomList(rng *rand.Rand, states, n int) []int {
	l := make([]int, n)
	for i := range l {
		l[i] = rng.Intn(states)
	}
	return l
}

// sameTree reports whether two trees are equal, node by node.
func sameTree(a, b api.Tree) bool {
	return a.States == b.States && slices.Equal(a.Hood, b.Hood) && slices.EqualFunc(a.Nodes, b.Nodes, func(x, y api.Node) bool {
		return x.Level == y.Level && slices.Equal(x.Next, y.Next)
	})
}

// checkTree compares a tree and an error with the expected ones, and checks that the tree is reduced, or the zero value with an error. The
// call that returned them is told for messages.
func checkTree(t *testing.T, got api.Tree, e api.Errno, want api.Tree, wanted api.Errno, call ...any) {
	t.Helper()
	if !sameTree(got, want) || e != wanted {
		t.Errorf("%s is %s with the error %d, not %s with %d", told(call), show(got), e, show(want), wanted)
	}
	if e == api.OK && (!tree.Right(got) || !isReduced(got)) {
		t.Errorf("%s is %s, which is not valid, or not reduced", told(call), show(got))
	}
}

// told returns the beginning of what a call consists of, for messages.
func told(call []any) string {
	var texts []string
	for _, part := range call {
		switch part := part.(type) {
		case api.Tree:
			texts = append(texts, show(part))
		default:
			texts = append(texts, begin(fmt.Sprint(part)))
		}
	}
	return strings.Join(texts, " ")
}

// laid returns a list in new memory, in which two elements follow it; a list that is nil remains so.
func laid[E any](l []E, behind E) []E {
	if l == nil {
		return nil
	}
	longer := append(slices.Clone(l), behind, behind)
	return longer[: len(l) : len(l)+2]
}

// laidOut returns a tree whose lists, at each depth, are new memory that goes on behind them.
func laidOut(t api.Tree) api.Tree {
	t.Hood = laid(t.Hood, api.Point{X: 77, Y: -77})
	t.Nodes = laid(t.Nodes, node(77, -77))
	for i := range t.Nodes {
		t.Nodes[i].Next = laid(t.Nodes[i].Next, 77)
	}
	return t
}

// laidOutAll returns a list of trees that is laid out as each of them is.
func laidOutAll(l []api.Tree) []api.Tree {
	l = laid(l, api.Tree{States: 77})
	for i, own := range l {
		l[i] = laidOut(own)
	}
	return l
}

// whole returns a tree whose lists, at each depth, contain what lies behind them in memory.
func whole(t api.Tree) api.Tree {
	t.Hood = t.Hood[:cap(t.Hood)]
	t.Nodes = slices.Clone(t.Nodes[:cap(t.Nodes)])
	for i := range t.Nodes {
		t.Nodes[i].Next = t.Nodes[i].Next[:cap(t.Nodes[i].Next)]
	}
	return t
}

// unchanged runs a call with trees, and checks that it left them, and what lies behind their lists in memory, as they were.
func unchanged(t *testing.T, l []api.Tree, call func(l []api.Tree)) {
	t.Helper()
	given, want := laidOutAll(l), laidOutAll(l)
	call(given)
	for i := range given[:cap(given)] {
		if !sameTree(whole(given[:cap(given)][i]), whole(want[:cap(want)][i])) || i < len(l) && !sameTree(given[i], l[i]) {
			t.Errorf("a call changed the tree %s", show(want[:cap(want)][i]))
		}
	}
}

// checkNew writes into each list of a tree that a call returned, and behind it, and checks that nothing else changes: no other list of the
// tree, no tree that the call was given, and no tree that the same call returns.
func checkNew(t *testing.T, l []api.Tree, call func(l []api.Tree) (api.Tree, api.Errno)) {
	t.Helper()
	given := laidOutAll(l)
	got, e := call(given)
	if e != api.OK {
		t.Fatalf("the error is %d", e)
	}
	want, again := laidOut(got), laidOut(got)
	for i := range got.Nodes {
		fill(got.Nodes[i].Next, 99)
		want.Nodes[i].Next = slices.Repeat([]int{99}, got.States)
		if !sameTree(got, want) {
			t.Errorf("the node %d of %s shares memory", i, show(got))
		}
	}
	fill(got.Hood, api.Point{X: 99})
	fill(got.Nodes, node(99))
	for i, own := range laidOutAll(l) {
		if !sameTree(whole(given[i]), whole(own)) {
			t.Errorf("the tree shares memory with %s", show(own))
		}
	}
	got, e = call(given)
	checkTree(t, got, e, again, api.OK, "the tree of the same call")
	for _, own := range given {
		for _, other := range own.Nodes {
			fill(other.Next, 98)
		}
		fill(own.Hood, api.Point{X: 98})
		fill(own.Nodes, node(98))
	}
	checkTree(t, got, e, again, api.OK, "the tree, after a change of the arguments,")
}

// fill sets all elements of a list and those that its memory has behind them.
func fill[E any](l []E, e E) {
	l = l[:cap(l)]
	for i := range l {
		l[i] = e
	}
}

// show returns the beginning of what a tree contains, for messages.
func show(t api.Tree) string {
	t.Hood = t.Hood[:min(len(t.Hood), 30)]
	t.Nodes = t.Nodes[:min(len(t.Nodes), 40)]
	return begin(fmt.Sprintf("%+v", t))
}

// begin returns the beginning of a text, for messages.
func begin(s string) string {
	return s[:min(len(s), 600)]
}
