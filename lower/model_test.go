package lower_test

import (
	"fmt"
	"math"
	"math/rand"
	"slices"
	"testing"

	"cellular/api"
	"cellular/circuit"
	"cellular/hood"
	"cellular/lower"
	"cellular/tree"
)

// The tests compare package lower with a model that writes the gates of a circuit down with a name for each wire, and finds operands by these
// names. Whether a circuit is that of a rule is also found out without the model, from the values of both.

// ints are numbers at the limits of int, of states and of lists, and some that are small ones in 8, 16 or 32 bits.
var ints = []int{
	math.MinInt, math.MinInt + 1, math.MinInt + 2, -1<<32 - 1, -1 << 32, -1<<32 + 2, -65534, -4096, -256, -254, -253, -9, -8, -7, -4, -3, -2, -1,
	0, 1, 2, 3, 4, 5, 6, 7, 8, 9, 10, 16, 255, 256, 257, 258, 259, 264, 4095, 4096, 4097, 65536, 65538, 1<<32 - 1, 1 << 32, 1<<32 + 1, 1<<32 + 2,
	1<<32 + 8, math.MaxInt - 1, math.MaxInt,
}

// widthOf returns the number of bits of a rule.
func widthOf(states int) int {
	return map[int]int{2: 1, 3: 2, 4: 2, 5: 3, 6: 3, 7: 3, 8: 3}[states]
}

// node returns a node with a level and elements.
func node(level int, next ...int) api.Node {
	return api.Node{Level: level, Next: next}
}

// made returns a tree for a number of states and the first positions within the greatest radius.
func made(states, positions int, nodes ...api.Node) api.Tree {
	return api.Tree{States: states, Hood: hood.Moore(2)[:positions], Nodes: nodes}
}

// gate returns a gate.
func gate(op, a, b int) api.Gate {
	return api.Gate{Op: op, A: a, B: b}
}

// zero is the gate that is false.
var zero = gate(api.GateZero, 0, 0)

// not returns the gate that has the opposite of a wire.
func not(a int) api.Gate {
	return gate(api.GateNot, a, 0)
}

// and returns the gate that is true if two wires are.
func and(a, b int) api.Gate {
	return gate(api.GateAnd, a, b)
}

// or returns the gate that is true if one of two wires is.
func or(a, b int) api.Gate {
	return gate(api.GateOr, a, b)
}

// list is a circuit that is written down gate by gate.
type list struct {
	own   api.Circuit
	wires map[string]int
}

// add writes a gate down.
func (l *list) add(name string, op int, operands ...string) {
	found := []int{0, 0}
	for i, operand := range operands {
		wire, is := l.wires[operand]
		if !is {
			panic("no wire for " + operand)
		}
		found[i] = wire
	}
	l.wires[name] = l.own.Inputs + len(l.own.Gates)
	l.own.Gates = append(l.own.Gates, gate(op, found[0], found[1]))
}

// join writes the gates down that join some wires, of which there is at least one.
func (l *list) join(name string, op int, operands []string) {
	last := operands[0]
	for i, operand := range operands[1:] {
		next := fmt.Sprint(name, " up to ", i+1)
		l.add(next, op, last, operand)
		last = next
	}
	l.wires[name] = l.wires[last]
}

// result writes the gates of a node and a bit down.
func (l *list) result(t api.Tree, i, k int) {
	var terms []string
	own := t.Nodes[i]
	for s, next := range own.Next {
		test := testOf(len(t.Hood)-own.Level, s)
		if own.Level > 1 {
			terms = append(terms, fmt.Sprintf("term %d of %s", s, resultOf(i, k)))
			l.add(terms[s], api.GateAnd, test, resultOf(next, k))
		} else if binary(next)[k] == '1' {
			terms = append(terms, test)
		}
	}
	if terms == nil {
		l.add(resultOf(i, k), api.GateZero)
	} else {
		l.join(resultOf(i, k), api.GateOr, terms)
	}
}

// literalOf returns the name of the wire that tells whether a bit of a position has a value.
func literalOf(i, k int, value byte) string {
	return fmt.Sprintf("bit %d of position %d is %c", k, i, value)
}

// testOf returns the name of the wire that tells whether a position has a state.
func testOf(i, s int) string {
	return fmt.Sprintf("position %d is %d", i, s)
}

// resultOf returns the name of the wire of a node and a bit.
func resultOf(i, k int) string {
	return fmt.Sprintf("bit %d of node %d", k, i)
}

// binary returns the three lowest binary digits of a number, the lowest first.
func binary(n int) string {
	digits := []byte(fmt.Sprintf("%03b", n))
	slices.Reverse(digits)
	return string(digits)
}

// lowerModel returns the circuit of a valid rule, whatever its number of gates is.
func lowerModel(t api.Tree) api.Circuit {
	bits := widthOf(t.States)
	l := list{own: api.Circuit{Inputs: len(t.Hood) * bits}, wires: map[string]int{}}
	for j := range l.own.Inputs {
		l.wires[literalOf(j/bits, j%bits, '1')] = j
	}
	for j := range l.own.Inputs {
		l.add(literalOf(j/bits, j%bits, '0'), api.GateNot, literalOf(j/bits, j%bits, '1'))
	}
	for i := range t.Hood {
		for s := range t.States {
			var literals []string
			for k := range bits {
				literals = append(literals, literalOf(i, k, binary(s)[k]))
			}
			l.join(testOf(i, s), api.GateAnd, literals)
		}
	}
	for i := range t.Nodes {
		for k := range bits {
			l.result(t, i, k)
		}
	}
	for k := range bits {
		l.own.Outs = append(l.own.Outs, l.wires[resultOf(len(t.Nodes)-1, k)])
	}
	return l.own
}

// inputsModel returns the inputs of a circuit for numbers, each of which has as many bits as a state.
func inputsModel(states int, numbers []int) []bool {
	var l []bool
	for _, n := range numbers {
		for _, digit := range binary(n)[:widthOf(states)] {
			l = append(l, digit == '1')
		}
	}
	return l
}

// checkLower compares Lower with an expected circuit.
func checkLower(t *testing.T, own api.Tree, want api.Circuit) {
	t.Helper()
	if model := lowerModel(own); !circuit.Same(model, want) {
		t.Errorf("the model lowers the tree %s to %s, not to %s", show(own), showCircuit(model), showCircuit(want))
	}
	checkLowered(t, own)
}

// checkLowered compares Lower with the model.
func checkLowered(t *testing.T, own api.Tree) {
	t.Helper()
	want := lowerModel(own)
	unchanged(t, own, nil, func(own api.Tree, _ []int) {
		got, e := lower.Lower(own)
		if e != api.OK || !circuit.Same(got, want) {
			t.Errorf("Lower of the tree %s is %s with the error %d, not %s", show(own), showCircuit(got), e, showCircuit(want))
		}
		if !circuit.Right(got) {
			t.Errorf("Lower of the tree %s is %s, which is not valid", show(own), showCircuit(got))
		}
	})
}

// checkLowerError checks that Lower returns an error and nothing else.
func checkLowerError(t *testing.T, own api.Tree, want api.Errno) {
	t.Helper()
	unchanged(t, own, nil, func(own api.Tree, _ []int) {
		if got, e := lower.Lower(own); e != want || !circuit.Same(got, api.Circuit{}) {
			t.Errorf("Lower of the tree %s is %s with the error %d, not %d", show(own), showCircuit(got), e, want)
		}
	})
}

// checkInputs compares Inputs with expected values.
func checkInputs(t *testing.T, own api.Tree, in []int, want []bool) {
	t.Helper()
	unchanged(t, own, in, func(own api.Tree, in []int) {
		if got, e := lower.Inputs(own, in); e != api.OK || !slices.Equal(got, want) {
			t.Errorf("Inputs of the tree %s for %v is %v with the error %d, not %v", show(own), in, got, e, want)
		}
	})
}

// checkInputsError checks that Inputs returns an error and nothing else.
func checkInputsError(t *testing.T, own api.Tree, in []int, want api.Errno) {
	t.Helper()
	unchanged(t, own, in, func(own api.Tree, in []int) {
		if got, e := lower.Inputs(own, in); e != want || len(got) > 0 {
			t.Errorf("Inputs of the tree %s for %s is %v with the error %d, not %d", show(own), begin(fmt.Sprint(in)), got, e, want)
		}
	})
}

// constant returns the tree that leads to a state.
func constant(states, positions, s int) api.Tree {
	t, _ := tree.Constant(states, hood.Moore(2)[:positions], s)
	return t
}

// reading returns the tree that leads to the state of a position.
func reading(states, positions, k int) api.Tree {
	t, _ := tree.Read(states, hood.Moore(2)[:positions], k)
	return t
}

// randomTree returns a valid tree with a number of nodes that is greater than that of positions. There may be equal nodes, others that are
// not needed, and nodes of all levels in any order.
func randomTree(rng *rand.Rand, states, positions, nodes int) api.Tree {
	t, may := made(states, positions), make([][]int, positions+1)
	for s := range states {
		may[0] = append(may[0], s)
	}
	add := func(level int) {
		own := node(level)
		// With a few elements there are bits that none or just one of them has.
		few := 1 + rng.Intn(states)
		for range states {
			e := rng.Intn(len(may[level-1]))
			if rng.Intn(states) >= few {
				e = 0
			}
			own.Next = append(own.Next, may[level-1][e])
		}
		may[level] = append(may[level], len(t.Nodes))
		t.Nodes = append(t.Nodes, own)
	}
	for level := range positions {
		add(level + 1)
	}
	for len(t.Nodes) < nodes-1 {
		add(1 + rng.Intn(positions))
	}
	add(positions)
	return t
}

// sized returns a tree for the same rule as a valid one with at least three states, to which nodes are added that are not needed, so that its
// circuit has a greater number of gates.
func sized(t api.Tree, gates int) api.Tree {
	t = laidOut(t)
	missing := func() int { return gates - len(lowerModel(t).Gates) }
	insert := func(n int, own api.Node) {
		t.Nodes = slices.Insert(t.Nodes, len(t.Nodes)-1, slices.Repeat([]api.Node{own}, n)...)
	}
	// The root as often as possible.
	root, before := t.Nodes[len(t.Nodes)-1], missing()
	insert(1, root)
	insert(missing()/(before-missing()), root)
	// A node that has a single gate: no state has its highest bit, and just one each of the others.
	next := make([]int, t.States)
	next[0] = 1
	if widthOf(t.States) == 3 {
		next[1] = 2
	}
	insert(missing(), node(1, next...))
	return t
}

// everyList returns all lists of n numbers that are less than a limit, in ascending order.
func everyList(limit, n int) [][]int {
	all := [][]int{{}}
	for range n {
		var longer [][]int
		for _, l := range all {
			for s := range limit {
				longer = append(longer, append(slices.Clone(l), s))
			}
		}
		all = longer
	}
	return all
}

// randomList returns n numbers that are less than a limit.
func randomList(rng *rand.Rand, limit, n int) []int {
	l := make([]int, n)
	for i := range l {
		l[i] = rng.Intn(limit)
	}
	return l
}

// laid returns a list in new memory, in which two elements follow it; a list that is nil remains so.
func laid[E any](l []E, behind E) []E {
	if l == nil {
		return nil
	}
	longer := append(slices.Clone(l), behind, behind)
	return longer[: len(l) : len(l)+2]
}

// laidOut returns a tree whose lists, at each depth, are new memory that goes on behind them.
func laidOut(t api.Tree) api.Tree {
	t.Hood = laid(t.Hood, api.Point{X: 77, Y: -77})
	t.Nodes = laid(t.Nodes, node(77, -77))
	for i := range t.Nodes {
		t.Nodes[i].Next = laid(t.Nodes[i].Next, 77)
	}
	return t
}

// whole returns a tree whose lists, at each depth, contain what lies behind them in memory.
func whole(t api.Tree) api.Tree {
	t.Hood = t.Hood[:cap(t.Hood)]
	t.Nodes = slices.Clone(t.Nodes[:cap(t.Nodes)])
	for i, own := range t.Nodes {
		t.Nodes[i].Next = own.Next[:cap(own.Next)]
	}
	return t
}

// unchanged runs a call with a tree and a list, and checks that it left both, and what lies behind them in memory, as they were.
func unchanged(t *testing.T, own api.Tree, in []int, call func(own api.Tree, in []int)) {
	t.Helper()
	given, l := laidOut(own), laid(in, 77)
	call(given, l)
	if !tree.Same(given, own) || !tree.Same(whole(given), whole(laidOut(own))) {
		t.Errorf("a call changed the tree %s", show(own))
	}
	if !slices.Equal(l[:cap(l)], laid(in, 77)[:cap(l)]) {
		t.Errorf("a call changed the list %s", begin(fmt.Sprint(in)))
	}
}

// fill sets all elements of a list and those that its memory has behind them.
func fill[E any](l []E, e E) {
	l = l[:cap(l)]
	for i := range l {
		l[i] = e
	}
}

// show returns the beginning of what a tree contains, for messages.
func show(t api.Tree) string {
	text := fmt.Sprintf("with %d positions and %d nodes ", len(t.Hood), len(t.Nodes))
	t.Nodes = t.Nodes[:min(len(t.Nodes), 40)]
	return text + begin(fmt.Sprintf("%+v", t))
}

// showCircuit returns the beginning of what a circuit contains, for messages.
func showCircuit(c api.Circuit) string {
	text := fmt.Sprintf("with %d gates and the outputs %v ", len(c.Gates), c.Outs)
	return text + begin(fmt.Sprintf("%+v", c.Gates[:min(len(c.Gates), 40)]))
}

// begin returns the beginning of a text, for messages.
func begin(s string) string {
	return s[:min(len(s), 600)]
}
