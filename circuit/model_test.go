package circuit_test

import (
	"fmt"
	"maps"
	"math"
	"math/rand"
	"slices"
	"testing"

	"cellular/api"
)

// The tests compare package circuit with a model that keeps the wires it knows in a set, looks values up in tables of the operations from
// the outputs back to the inputs, and finds depths by asking again and again which gates have operands that are reached already.

// tables has for each operation the results for the values of its operands: of none, of A, or of A and B (both false, B, A, both true).
var tables = map[int]string{
	api.GateZero: "0", api.GateOne: "1", api.GateNot: "10", api.GateAnd: "0001", api.GateOr: "0111", api.GateXor: "0110",
}

// ints are numbers at the limits of int, of inputs, of wires, of gates and of operations, and some that are small ones in 8, 16 or 32
// bits.
var ints = []int{
	math.MinInt, math.MinInt + 1, -1<<32 - 1, -1 << 32, -1<<32 + 1, -65536, -20001, -20000, -1001, -1000, -999, -256, -255, -7, -6, -5, -4,
	-3, -2, -1, 0, 1, 2, 3, 4, 5, 6, 7, 8, 255, 256, 257, 258, 259, 260, 261, 999, 1000, 1001, 1002, 19999, 20000, 20001, 20999, 21000, 21001,
	65535, 65536, 65537, 1<<32 - 1, 1 << 32, 1<<32 + 1, 1<<32 + 2, 1<<32 + 3, math.MaxInt - 1, math.MaxInt,
}

// The gates without operands.
var (
	zero = api.Gate{Op: api.GateZero}
	one  = api.Gate{Op: api.GateOne}
)

// not returns the gate that has the opposite of a wire.
func not(a int) api.Gate {
	return api.Gate{Op: api.GateNot, A: a}
}

// and returns the gate that is true if two wires are.
func and(a, b int) api.Gate {
	return api.Gate{Op: api.GateAnd, A: a, B: b}
}

// or returns the gate that is true if one of two wires is.
func or(a, b int) api.Gate {
	return api.Gate{Op: api.GateOr, A: a, B: b}
}

// xor returns the gate that is true if just one of two wires is.
func xor(a, b int) api.Gate {
	return api.Gate{Op: api.GateXor, A: a, B: b}
}

// made returns a circuit.
func made(inputs int, gates []api.Gate, outs ...int) api.Circuit {
	return api.Circuit{Inputs: inputs, Gates: gates, Outs: outs}
}

// upTo returns the numbers from 0 to n - 1.
func upTo(n int) []int {
	var l []int
	for i := range n {
		l = append(l, i)
	}
	return l
}

// same returns the circuit whose outputs are its inputs.
func same(n int) api.Circuit {
	return made(n, nil, upTo(n)...)
}

// chain returns n gates, each of which has the wire before it as its operands. The first one has the wire before a number.
func chain(op, first, n int) []api.Gate {
	gates := make([]api.Gate, n)
	for i := range gates {
		gates[i] = api.Gate{Op: op, A: first + i - 1, B: first + i - 1}
		if op == api.GateNot {
			gates[i].B = 0
		}
	}
	return gates
}

// largest returns a valid circuit with the greatest numbers of inputs, of gates and of outputs, among which the first and the last wire
// are.
func largest(rng *rand.Rand) api.Circuit {
	c := randomCircuit(rng, 1000, 20000, 1000)
	c.Outs[0], c.Outs[999] = 0, 20999
	return c
}

// arity returns the number of operands of an operation: 0, 1 or 2, as its table has 1, 2 or 4 results.
func arity(op int) int {
	return len(tables[op]) / 2
}

// parted returns the operands that a gate has, and the numbers in place of those that it does not have.
func parted(g api.Gate) (has, rest []int) {
	l := []int{g.A, g.B}
	return l[:arity(g.Op)], l[arity(g.Op):]
}

// rightModel reports whether a circuit is valid.
func rightModel(c api.Circuit) bool {
	if c.Inputs < 0 || c.Inputs >= 1001 || len(c.Gates) >= 20001 || len(c.Outs) >= 1001 {
		return false
	}
	known := make(map[int]bool, c.Inputs+len(c.Gates))
	for i := range c.Inputs {
		known[i] = true
	}
	unknown := func(wire int) bool { return !known[wire] }
	for _, g := range c.Gates {
		has, rest := parted(g)
		if tables[g.Op] == "" || slices.ContainsFunc(has, unknown) || !slices.Equal(rest, make([]int, len(rest))) {
			return false
		}
		known[len(known)] = true
	}
	return !slices.ContainsFunc(c.Outs, unknown)
}

// evalModel returns the values of the outputs of a valid circuit for those of its inputs.
func evalModel(c api.Circuit, in []bool) []bool {
	found := map[int]bool{}
	var value func(wire int) bool
	value = func(wire int) bool {
		if wire < c.Inputs {
			return in[wire]
		}
		if v, is := found[wire]; is {
			return v
		}
		g, row := c.Gates[wire-c.Inputs], 0
		has, _ := parted(g)
		for _, operand := range has {
			row *= 2
			if value(operand) {
				row++
			}
		}
		found[wire] = tables[g.Op][row] == '1'
		return found[wire]
	}
	var outs []bool
	for _, wire := range c.Outs {
		outs = append(outs, value(wire))
	}
	return outs
}

// wordsModel returns the words of the outputs of a valid circuit for those of its inputs.
func wordsModel(c api.Circuit, in []uint64) []uint64 {
	outs := make([]uint64, len(c.Outs))
	for b := range 64 {
		for k, v := range evalModel(c, bitsOf(in, b)) {
			if v {
				outs[k] |= 1 << b
			}
		}
	}
	return outs
}

// bitsOf returns a bit of each of some words.
func bitsOf(words []uint64, b int) []bool {
	l := make([]bool, len(words))
	for i, word := range words {
		l[i] = word>>b%2 == 1
	}
	return l
}

// depthModel returns what Depth has to return.
func depthModel(c api.Circuit) int {
	if !rightModel(c) {
		return 0
	}
	reached := map[int]bool{}
	for i := range c.Inputs {
		reached[i] = true
	}
	for depth := 0; ; depth++ {
		waits := func(wire int) bool { return !reached[wire] }
		if !slices.ContainsFunc(c.Outs, waits) {
			return depth
		}
		next := maps.Clone(reached)
		for i, g := range c.Gates {
			if has, _ := parted(g); !slices.ContainsFunc(has, waits) {
				next[c.Inputs+i] = true
			}
		}
		reached = next
	}
}

// joinModel returns what Join has to return.
func joinModel(a, b api.Circuit) (api.Circuit, api.Errno) {
	if !rightModel(a) || !rightModel(b) || len(a.Outs) != b.Inputs {
		return api.Circuit{}, api.ErrArg
	}
	wire := func(w int) int {
		if w < b.Inputs {
			return a.Outs[w]
		}
		return w - b.Inputs + a.Inputs + len(a.Gates)
	}
	c := api.Circuit{Inputs: a.Inputs, Gates: slices.Clone(a.Gates)}
	for _, g := range b.Gates {
		if arity(g.Op) > 0 {
			g.A = wire(g.A)
		}
		if arity(g.Op) > 1 {
			g.B = wire(g.B)
		}
		c.Gates = append(c.Gates, g)
	}
	if len(c.Gates) >= 20001 {
		return api.Circuit{}, api.ErrSize
	}
	for _, w := range b.Outs {
		c.Outs = append(c.Outs, wire(w))
	}
	return c, api.OK
}

// sameModel reports whether two circuits are equal, number by number.
func sameModel(a, b api.Circuit) bool {
	if a.Inputs != b.Inputs || len(a.Gates) != len(b.Gates) || len(a.Outs) != len(b.Outs) {
		return false
	}
	for i, g := range a.Gates {
		if g.Op != b.Gates[i].Op || g.A != b.Gates[i].A || g.B != b.Gates[i].B {
			return false
		}
	}
	for i, wire := range a.Outs {
		if wire != b.Outs[i] {
			return false
		}
	}
	return true
}

// randomGate returns a valid gate if there are so many wires before it.
func randomGate(rng *rand.Rand, wires int) api.Gate {
	op := rng.Intn(6)
	if wires == 0 {
		op = rng.Intn(2)
	}
	g := api.Gate{Op: op}
	if arity(op) > 0 {
		g.A = rng.Intn(wires)
	}
	if arity(op) > 1 {
		g.B = rng.Intn(wires)
	}
	// Wires that are near make circuits deep.
	if arity(op) > 0 && rng.Intn(2) == 0 {
		g.A = wires - 1 - rng.Intn(min(wires, 3))
	}
	return g
}

// randomCircuit returns a valid circuit. Without wires it has no outputs.
func randomCircuit(rng *rand.Rand, inputs, gates, outs int) api.Circuit {
	c := api.Circuit{Inputs: inputs}
	for i := range gates {
		c.Gates = append(c.Gates, randomGate(rng, inputs+i))
	}
	for range outs {
		if inputs+gates > 0 {
			c.Outs = append(c.Outs, rng.Intn(inputs+gates))
		}
	}
	return c
}

// broken returns a circuit that differs from a valid one in one place.
func broken(rng *rand.Rand, c api.Circuit) api.Circuit {
	c = laidOut(c)
	n := rng.Intn(c.Inputs+len(c.Gates)+4) - 2
	if rng.Intn(3) == 0 {
		n = ints[rng.Intn(len(ints))]
	}
	kind := rng.Intn(8)
	switch {
	case kind == 0:
		c.Inputs = n
	case kind == 1:
		c.Inputs--
	case kind == 2 && len(c.Gates) > 0:
		c.Gates = c.Gates[:rng.Intn(len(c.Gates))]
	case kind < 4 && len(c.Outs) > 0:
		c.Outs[rng.Intn(len(c.Outs))] = n
	case len(c.Gates) > 0:
		g := &c.Gates[rng.Intn(len(c.Gates))]
		*[]*int{&g.Op, &g.A, &g.B}[rng.Intn(3)] = n
	}
	return c
}

// everyGate returns all valid gates if there are so many wires before them.
func everyGate(wires int) []api.Gate {
	gates := []api.Gate{zero, one}
	for a := range wires {
		gates = append(gates, not(a))
		for b := range wires {
			gates = append(gates, and(a, b), or(a, b), xor(a, b))
		}
	}
	return gates
}

// everyCircuit returns all valid circuits with a number of inputs and of gates, each with all wires as outputs.
func everyCircuit(inputs, gates int) []api.Circuit {
	list := []api.Circuit{same(inputs)}
	for i := range gates {
		var longer []api.Circuit
		for _, c := range list {
			for _, g := range everyGate(inputs + i) {
				next := append(slices.Clone(c.Gates), g)
				longer = append(longer, made(inputs, next, upTo(inputs+i+1)...))
			}
		}
		list = longer
	}
	return list
}

// everyInput returns all values of n inputs.
func everyInput(n int) [][]bool {
	list := [][]bool{{}}
	for range n {
		var longer [][]bool
		for _, l := range list {
			longer = append(longer, append(slices.Clone(l), false), append(slices.Clone(l), true))
		}
		list = longer
	}
	return list
}

// randomInput returns values of n inputs.
func randomInput(rng *rand.Rand, n int) []bool {
	l := make([]bool, n)
	for i := range l {
		l[i] = rng.Intn(2) == 1
	}
	return l
}

// randomWords returns words of n inputs.
func randomWords(rng *rand.Rand, n int) []uint64 {
	l := make([]uint64, n)
	for i := range l {
		l[i] = rng.Uint64()
	}
	return l
}

// laid returns a list in new memory, in which two elements follow it; a list that is nil remains so.
func laid[E any](l []E, behind E) []E {
	if l == nil {
		return nil
	}
	longer := append(slices.Clone(l), behind, behind)
	return longer[: len(l) : len(l)+2]
}

// laidOut returns a circuit whose lists are new memory that goes on behind them.
func laidOut(c api.Circuit) api.Circuit {
	c.Gates = laid(c.Gates, api.Gate{Op: 77, A: -77, B: 777})
	c.Outs = laid(c.Outs, 77)
	return c
}

// whole returns a circuit whose lists contain what lies behind them in memory.
func whole(c api.Circuit) api.Circuit {
	c.Gates, c.Outs = c.Gates[:cap(c.Gates)], c.Outs[:cap(c.Outs)]
	return c
}

// unchanged runs a call with a circuit, and checks that it left the circuit, and what lies behind its lists in memory, as they were.
func unchanged(t *testing.T, c api.Circuit, call func(c api.Circuit)) {
	t.Helper()
	given := laidOut(c)
	call(given)
	if !sameModel(whole(given), whole(laidOut(c))) || !sameModel(given, c) {
		t.Errorf("a call changed the circuit %s", show(c))
	}
}

// listUnchanged runs a call with a list, and checks that it left the list, and what lies behind it in memory, as it was.
func listUnchanged[E comparable](t *testing.T, l []E, behind E, call func(l []E)) {
	t.Helper()
	given, want := laid(l, behind), laid(l, behind)
	call(given)
	if !slices.Equal(given[:cap(given)], want[:cap(want)]) {
		t.Errorf("a call changed the list %s", begin(fmt.Sprint(l)))
	}
}

// fill sets all elements of a list and those that its memory has behind them.
func fill[E any](l []E, e E) {
	l = l[:cap(l)]
	for i := range l {
		l[i] = e
	}
}

// show returns the beginning of what a circuit contains, for messages.
func show(c api.Circuit) string {
	text := fmt.Sprintf("with %d gates and %d outputs ", len(c.Gates), len(c.Outs))
	c.Gates, c.Outs = c.Gates[:min(len(c.Gates), 40)], c.Outs[:min(len(c.Outs), 40)]
	return text + begin(fmt.Sprintf("%+v", c))
}

// begin returns the beginning of a text, for messages.
func begin(s string) string {
	return s[:min(len(s), 600)]
}
