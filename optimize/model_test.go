package optimize_test

import (
	"fmt"
	"math"
	"math/rand"
	"slices"
	"strings"
	"testing"

	"cellular/api"
	"cellular/circuit"
	"cellular/optimize"
)

// The tests compare package optimize with a model that looks each gate up in the chapter's table, puts the wire that replaces another one in
// its place at once in all later gates and in the outputs, looks for equal gates among all earlier ones, and removes one gate after the other
// to which nothing refers. That the outputs stay the same, and what the results look like, is also found out without the model.

// ints are numbers at the limits of int, of inputs, of wires, of gates and of operations, and some that are small ones in 8, 16 or 32 bits.
var ints = []int{
	math.MinInt, math.MinInt + 1, -1<<32 - 1, -1 << 32, -1<<32 + 1, -65536, -20001, -1001, -1000, -256, -255, -6, -5, -4, -3, -2, -1, 0, 1, 2, 3,
	4, 5, 6, 7, 8, 255, 256, 257, 258, 259, 260, 261, 999, 1000, 1001, 19999, 20000, 20001, 20999, 21000, 21001, 65535, 65536, 65537, 1<<32 - 1,
	1 << 32, 1<<32 + 1, 1<<32 + 2, 1<<32 + 3, math.MaxInt - 1, math.MaxInt,
}

// The gates without operands.
var (
	zero = api.Gate{Op: api.GateZero}
	one  = api.Gate{Op: api.GateOne}
)

// not returns the gate that has the opposite of a wire.
func not(a int) api.Gate {
	return api.Gate{Op: api.GateNot, A: a}
}

// and returns the gate that is true if two wires are.
func and(a, b int) api.Gate {
	return api.Gate{Op: api.GateAnd, A: a, B: b}
}

// or returns the gate that is true if one of two wires is.
func or(a, b int) api.Gate {
	return api.Gate{Op: api.GateOr, A: a, B: b}
}

// xor returns the gate that is true if just one of two wires is.
func xor(a, b int) api.Gate {
	return api.Gate{Op: api.GateXor, A: a, B: b}
}

// list returns gates.
func list(gates ...api.Gate) []api.Gate {
	return gates
}

// made returns a circuit.
func made(inputs int, gates []api.Gate, outs ...int) api.Circuit {
	return api.Circuit{Inputs: inputs, Gates: gates, Outs: outs}
}

// upTo returns the numbers from 0 to n - 1.
func upTo(n int) []int {
	var l []int
	for i := range n {
		l = append(l, i)
	}
	return l
}

// arity returns the number of operands of a valid operation.
func arity(op int) int {
	return []int{0, 0, 1, 2, 2, 2}[op]
}

// eachPlace visits the operands of the gates from a number on, and the outputs.
func eachPlace(c api.Circuit, from int, visit func(wire *int)) {
	for i := from; i < len(c.Gates); i++ {
		g := &c.Gates[i]
		for _, wire := range []*int{&g.A, &g.B}[:arity(g.Op)] {
			visit(wire)
		}
	}
	for i := range c.Outs {
		visit(&c.Outs[i])
	}
}

// replace puts a wire in place of that of a gate.
func replace(c api.Circuit, i, other int) {
	eachPlace(c, i+1, func(wire *int) {
		if *wire == c.Inputs+i {
			*wire = other
		}
	})
}

// row is a row of the chapter's table: one of its conditions has to hold.
type row struct {
	op                 int
	conditions, result string
}

// rows is the chapter's table.
var rows = []row{
	{api.GateNot, "a is zero", "zero or one: one"},
	{api.GateNot, "a is one", "zero or one: zero"},
	{api.GateNot, "a is not", "replaced: x"},
	{api.GateAnd, "a is zero/b is zero", "zero or one: zero"},
	{api.GateAnd, "a is one", "replaced: b"},
	{api.GateAnd, "b is one/a = b", "replaced: a"},
	{api.GateAnd, "a opposes b/b opposes a", "zero or one: zero"},
	{api.GateOr, "a is one/b is one", "zero or one: one"},
	{api.GateOr, "a is zero", "replaced: b"},
	{api.GateOr, "b is zero/a = b", "replaced: a"},
	{api.GateOr, "a opposes b/b opposes a", "zero or one: one"},
	{api.GateXor, "a is zero", "replaced: b"},
	{api.GateXor, "b is zero", "replaced: a"},
	{api.GateXor, "a = b", "zero or one: zero"},
	{api.GateXor, "a opposes b/b opposes a", "zero or one: one"},
	{api.GateXor, "a is one", "not: b"},
	{api.GateXor, "b is one", "not: a"},
}

// facts returns the conditions that hold for the operands of a gate.
func facts(c api.Circuit, a, b int) []string {
	before := func(wire int) api.Gate {
		if wire < c.Inputs {
			return api.Gate{Op: -1}
		}
		return c.Gates[wire-c.Inputs]
	}
	var l []string
	for i, wire := range []int{a, b} {
		name, other := string("ab"[i]), string("ba"[i])
		switch g := before(wire); {
		case g == zero:
			l = append(l, name+" is zero")
		case g == one:
			l = append(l, name+" is one")
		case g.Op == api.GateNot && g.A == []int{b, a}[i]:
			l = append(l, name+" is not", name+" opposes "+other)
		case g.Op == api.GateNot:
			l = append(l, name+" is not")
		}
	}
	if a == b {
		l = append(l, "a = b")
	}
	return l
}

// rowOf returns the number of the row by which a gate is folded, or -1.
func rowOf(c api.Circuit, g api.Gate) int {
	known := facts(c, g.A, g.B)
	return slices.IndexFunc(rows, func(r row) bool {
		return r.op == g.Op && slices.ContainsFunc(strings.Split(r.conditions, "/"), func(s string) bool { return slices.Contains(known, s) })
	})
}

// foldGate folds a gate, and adds the row by which that was done to a list.
func foldGate(c api.Circuit, i int, used []int) []int {
	g := &c.Gates[i]
	n := rowOf(c, *g)
	if n < 0 {
		return used
	}
	wires := map[string]int{"a": g.A, "b": g.B}
	if g.Op == api.GateNot && g.A >= c.Inputs {
		wires["x"] = c.Gates[g.A-c.Inputs].A
	}
	used = append(used, n)
	switch kind, name, _ := strings.Cut(rows[n].result, ": "); kind {
	case "zero or one":
		*g = map[string]api.Gate{"zero": zero, "one": one}[name]
	case "replaced":
		replace(c, i, wires[name])
	case "not":
		*g = not(wires[name])
		return foldGate(c, i, used)
	}
	return used
}

// foldModel returns what Fold has to return for a valid circuit.
func foldModel(c api.Circuit) api.Circuit {
	c = laidOut(c)
	for i := range c.Gates {
		foldGate(c, i, nil)
	}
	return c
}

// shareModel returns what Share has to return for a valid circuit.
func shareModel(c api.Circuit) api.Circuit {
	c = laidOut(c)
	isReplaced := make([]bool, len(c.Gates))
	for i := range c.Gates {
		g := &c.Gates[i]
		if arity(g.Op) == 2 && g.A > g.B {
			g.A, g.B = g.B, g.A
		}
		for k, earlier := range c.Gates[:i] {
			if earlier == *g && !isReplaced[k] {
				isReplaced[i] = true
				replace(c, i, c.Inputs+k)
			}
		}
	}
	return c
}

// trimModel returns what Trim has to return for a valid circuit.
func trimModel(c api.Circuit) api.Circuit {
	c = laidOut(c)
	for i := len(c.Gates) - 1; i >= 0; i-- {
		uses := 0
		eachPlace(c, i+1, func(wire *int) {
			if *wire == c.Inputs+i {
				uses++
			}
		})
		if uses > 0 {
			continue
		}
		c.Gates = slices.Delete(c.Gates, i, i+1)
		eachPlace(c, i, func(wire *int) {
			if *wire > c.Inputs+i {
				*wire--
			}
		})
	}
	return c
}

// roundModel returns what a round of All leads to.
func roundModel(c api.Circuit) api.Circuit {
	return trimModel(shareModel(foldModel(c)))
}

// allModel returns what All has to return for a valid circuit, and the number of rounds that change it.
func allModel(c api.Circuit) (api.Circuit, int) {
	for rounds := 0; ; rounds++ {
		next := roundModel(c)
		if circuit.Same(next, c) {
			return c, rounds
		}
		c = next
	}
}

// call is a function of the package, and its model.
type call struct {
	name       string
	own, model func(c api.Circuit) api.Circuit
}

// The functions of the package.
var (
	fold  = call{"Fold", optimize.Fold, foldModel}
	share = call{"Share", optimize.Share, shareModel}
	trim  = call{"Trim", optimize.Trim, trimModel}
	all   = call{"All", optimize.All, func(c api.Circuit) api.Circuit { c, _ = allModel(c); return c }}
	calls = []call{fold, share, trim, all}
)

// checkCall compares a function with an expected result.
func checkCall(t *testing.T, f call, c, want api.Circuit) {
	t.Helper()
	if model := f.model(c); !circuit.Same(model, want) {
		t.Errorf("the model of %s leads from %s to %s, not to %s", f.name, show(c), show(model), show(want))
	}
	checkModel(t, f, c)
}

// checkModel compares a function with its model, and returns the result.
func checkModel(t *testing.T, f call, c api.Circuit) api.Circuit {
	t.Helper()
	want := f.model(c)
	got := checkShape(t, f, c)
	if !circuit.Same(got, want) {
		t.Errorf("%s leads from %s to %s, not to %s", f.name, show(c), show(got), show(want))
	}
	return got
}

// checkShape checks that a function returns a valid circuit with the right numbers of inputs, gates and outputs, and leaves its argument, and
// what lies behind its lists in memory, as they were. It returns the result.
func checkShape(t *testing.T, f call, c api.Circuit) api.Circuit {
	t.Helper()
	given := laidOut(c)
	got := f.own(given)
	if !circuit.Same(given, c) || !circuit.Same(whole(given), whole(laidOut(c))) {
		t.Errorf("%s changed the circuit %s", f.name, show(c))
	}
	if !circuit.Right(got) || got.Inputs != c.Inputs || len(got.Outs) != len(c.Outs) || len(got.Gates) > len(c.Gates) {
		t.Errorf("%s leads from %s to %s, which is not valid, or has wrong numbers", f.name, show(c), show(got))
	}
	if (f.name == "Fold" || f.name == "Share") && len(got.Gates) != len(c.Gates) {
		t.Errorf("%s leads from %s to %s, which has another number of gates", f.name, show(c), show(got))
	}
	return got
}

// checkEval checks that two circuits have the same outputs for inputs.
func checkEval(t *testing.T, c, got api.Circuit, in []bool) {
	t.Helper()
	want, e := circuit.Eval(c, in)
	outs, f := circuit.Eval(got, in)
	if e != api.OK || f != api.OK || !slices.Equal(outs, want) {
		t.Errorf("the circuit %s, made from %s, leads from %v to %v with the error %d, not to %v with %d", show(got), show(c), in, outs, f, want, e)
	}
}

// checkWords checks that two circuits have the same outputs for 64 random inputs.
func checkWords(t *testing.T, rng *rand.Rand, c, got api.Circuit) {
	t.Helper()
	in := make([]uint64, c.Inputs)
	for i := range in {
		in[i] = rng.Uint64()
	}
	want, e := circuit.Words(c, in)
	outs, f := circuit.Words(got, in)
	if e != api.OK || f != api.OK || !slices.Equal(outs, want) {
		t.Errorf("the circuit %s, made from %s, has other outputs, and the errors %d and %d", show(got), show(c), f, e)
	}
}

// randomGate returns a valid gate if there are so many wires before it.
func randomGate(rng *rand.Rand, wires int) api.Gate {
	op := rng.Intn(6)
	// Constants are not as frequent as other gates, so that circuits do not become constant.
	if op < 2 && rng.Intn(3) > 0 {
		op = 2 + rng.Intn(4)
	}
	if wires == 0 {
		op = rng.Intn(2)
	}
	near := min(wires, 1+rng.Intn(12))
	g := api.Gate{Op: op}
	if arity(op) > 0 {
		g.A = wires - 1 - rng.Intn(near)
	}
	if arity(op) > 1 {
		g.B = rng.Intn(wires)
	}
	if arity(op) > 1 && rng.Intn(2) == 0 {
		g.A, g.B = g.B, g.A
	}
	return g
}

// randomCircuit returns a valid circuit. Without wires it has no outputs.
func randomCircuit(rng *rand.Rand, inputs, gates, outs int) api.Circuit {
	c := api.Circuit{Inputs: inputs}
	for i := range gates {
		c.Gates = append(c.Gates, randomGate(rng, inputs+i))
	}
	for range outs {
		if inputs+gates > 0 {
			c.Outs = append(c.Outs, rng.Intn(inputs+gates))
		}
	}
	return c
}

// randomCircuits calls a function with many random circuits.
func randomCircuits(seed int64, n int, visit func(rng *rand.Rand, c api.Circuit)) {
	rng := rand.New(rand.NewSource(seed))
	for range n {
		visit(rng, randomCircuit(rng, rng.Intn(6), rng.Intn(40), rng.Intn(6)))
	}
}

// everyGate returns all valid gates if there are so many wires before them.
func everyGate(wires int) []api.Gate {
	gates := list(zero, one)
	for a := range wires {
		gates = append(gates, not(a))
		for b := range wires {
			gates = append(gates, and(a, b), or(a, b), xor(a, b))
		}
	}
	return gates
}

// everyCircuit returns all valid circuits with a number of inputs and of gates, without outputs.
func everyCircuit(inputs, gates int) []api.Circuit {
	circuits := []api.Circuit{made(inputs, nil)}
	for i := range gates {
		var longer []api.Circuit
		for _, c := range circuits {
			for _, g := range everyGate(inputs + i) {
				longer = append(longer, made(inputs, append(slices.Clone(c.Gates), g)))
			}
		}
		circuits = longer
	}
	return circuits
}

// everyInput returns all values of n inputs.
func everyInput(n int) [][]bool {
	values := [][]bool{{}}
	for range n {
		var longer [][]bool
		for _, l := range values {
			longer = append(longer, append(slices.Clone(l), false), append(slices.Clone(l), true))
		}
		values = longer
	}
	return values
}

// randomInput returns values of n inputs.
func randomInput(rng *rand.Rand, n int) []bool {
	l := make([]bool, n)
	for i := range l {
		l[i] = rng.Intn(2) == 1
	}
	return l
}

// laid returns a list in new memory, in which two elements follow it; a list that is nil remains so.
func laid[E any](l []E, behind E) []E {
	if l == nil {
		return nil
	}
	longer := append(slices.Clone(l), behind, behind)
	return longer[: len(l) : len(l)+2]
}

// laidOut returns a circuit whose lists are new memory that goes on behind them.
func laidOut(c api.Circuit) api.Circuit {
	c.Gates = laid(c.Gates, api.Gate{Op: 77, A: -77, B: 777})
	c.Outs = laid(c.Outs, 77)
	return c
}

// whole returns a circuit whose lists contain what lies behind them in memory.
func whole(c api.Circuit) api.Circuit {
	c.Gates, c.Outs = c.Gates[:cap(c.Gates)], c.Outs[:cap(c.Outs)]
	return c
}

// fill sets all elements of a list and those that its memory has behind them.
func fill[E any](l []E, e E) {
	l = l[:cap(l)]
	for i := range l {
		l[i] = e
	}
}

// show returns the beginning of what a circuit contains, for messages.
func show(c api.Circuit) string {
	text := fmt.Sprintf("with %d gates and %d outputs ", len(c.Gates), len(c.Outs))
	c.Gates, c.Outs = c.Gates[:min(len(c.Gates), 40)], c.Outs[:min(len(c.Outs), 40)]
	text += fmt.Sprintf("%+v", c)
	return text[:min(len(text), 600)]
}
