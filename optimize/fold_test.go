package optimize_test

import (
	"math/rand"
	"slices"
	"testing"

	"cellular/api"
	"cellular/circuit"
	"cellular/optimize"
)

// prefix is the beginning of circuits with three inputs: the wires 3 and 7 are zero, 4 and 8 are one, 5 and 6 are the opposites of the inputs 0
// and 1. The input 2 has none.
var prefix = list(zero, one, not(0), not(1), zero, one)

// constants has the wires of the prefix that are zero or one.
var constants = []int{3, 4, 7, 8}

// here is the wire of the gate behind the prefix.
const here = 9

// folding is a gate behind the prefix, what stays in its place, and the wire that stands for its own.
type folding struct {
	gate, want api.Gate
	wire       int
}

// foldings has gates for each row of the chapter's table alone, with each of its conditions, and for none of them.
var foldings = []folding{
	// GateNot of zero, of one, of a gate GateNot, and of others.
	{not(3), one, here}, {not(7), one, here}, {not(4), zero, here}, {not(8), zero, here}, {not(5), not(5), 0}, {not(6), not(6), 1},
	{not(0), not(0), here}, {not(1), not(1), here}, {not(2), not(2), here},
	// GateAnd: a or b is zero.
	{and(3, 0), zero, here}, {and(0, 3), zero, here}, {and(7, 2), zero, here}, {and(2, 7), zero, here},
	{and(3, 5), zero, here}, {and(6, 3), zero, here},
	// a is one.
	{and(4, 0), and(4, 0), 0}, {and(4, 2), and(4, 2), 2}, {and(8, 5), and(8, 5), 5},
	// b is one.
	{and(0, 4), and(0, 4), 0}, {and(2, 4), and(2, 4), 2}, {and(6, 8), and(6, 8), 6},
	// a = b.
	{and(0, 0), and(0, 0), 0}, {and(2, 2), and(2, 2), 2}, {and(5, 5), and(5, 5), 5},
	// The one is the opposite of the other.
	{and(5, 0), zero, here}, {and(0, 5), zero, here}, {and(6, 1), zero, here}, {and(1, 6), zero, here},
	// None of this.
	{and(0, 1), and(0, 1), here}, {and(1, 0), and(1, 0), here}, {and(5, 1), and(5, 1), here}, {and(0, 6), and(0, 6), here},
	{and(5, 6), and(5, 6), here}, {and(2, 5), and(2, 5), here},
	// GateOr: a or b is one.
	{or(4, 0), one, here}, {or(0, 4), one, here}, {or(8, 2), one, here}, {or(2, 8), one, here}, {or(4, 5), one, here}, {or(6, 4), one, here},
	// a is zero.
	{or(3, 0), or(3, 0), 0}, {or(3, 2), or(3, 2), 2}, {or(7, 5), or(7, 5), 5},
	// b is zero.
	{or(0, 3), or(0, 3), 0}, {or(2, 3), or(2, 3), 2}, {or(6, 7), or(6, 7), 6},
	// a = b.
	{or(0, 0), or(0, 0), 0}, {or(2, 2), or(2, 2), 2}, {or(5, 5), or(5, 5), 5},
	// The one is the opposite of the other.
	{or(5, 0), one, here}, {or(0, 5), one, here}, {or(6, 1), one, here}, {or(1, 6), one, here},
	// None of this.
	{or(0, 1), or(0, 1), here}, {or(1, 0), or(1, 0), here}, {or(5, 1), or(5, 1), here}, {or(0, 6), or(0, 6), here},
	{or(6, 5), or(6, 5), here}, {or(2, 5), or(2, 5), here},
	// GateXor: a is zero, or b.
	{xor(3, 0), xor(3, 0), 0}, {xor(7, 2), xor(7, 2), 2}, {xor(3, 5), xor(3, 5), 5},
	{xor(0, 3), xor(0, 3), 0}, {xor(2, 7), xor(2, 7), 2}, {xor(6, 3), xor(6, 3), 6},
	// a = b.
	{xor(0, 0), zero, here}, {xor(2, 2), zero, here}, {xor(5, 5), zero, here},
	// The one is the opposite of the other.
	{xor(5, 0), one, here}, {xor(0, 5), one, here}, {xor(6, 1), one, here}, {xor(1, 6), one, here},
	// a is one, or b.
	{xor(4, 0), not(0), here}, {xor(8, 2), not(2), here}, {xor(0, 4), not(0), here}, {xor(2, 8), not(2), here},
	// None of this.
	{xor(0, 1), xor(0, 1), here}, {xor(1, 0), xor(1, 0), here}, {xor(5, 1), xor(5, 1), here}, {xor(0, 6), xor(0, 6), here},
	{xor(5, 6), xor(5, 6), here}, {xor(2, 5), xor(2, 5), here},
}

// orders has gates to which several rows would apply, or several conditions of a row.
var orders = []folding{
	// GateAnd: a constant decides before equal operands do, and zero before one.
	{and(3, 3), zero, here}, {and(3, 7), zero, here}, {and(3, 4), zero, here}, {and(4, 3), zero, here}, {and(8, 7), zero, here},
	// The wire of b if a is one, whatever b is.
	{and(4, 4), and(4, 4), 4}, {and(4, 8), and(4, 8), 8}, {and(8, 4), and(8, 4), 4},
	// GateOr: likewise.
	{or(4, 4), one, here}, {or(4, 8), one, here}, {or(3, 4), one, here}, {or(4, 3), one, here}, {or(7, 8), one, here},
	{or(3, 3), or(3, 3), 3}, {or(3, 7), or(3, 7), 7}, {or(7, 3), or(7, 3), 3},
	// GateXor: zero before equal operands, and before one.
	{xor(3, 3), xor(3, 3), 3}, {xor(3, 7), xor(3, 7), 7}, {xor(7, 3), xor(7, 3), 3}, {xor(3, 4), xor(3, 4), 4}, {xor(4, 3), xor(4, 3), 4},
	{xor(8, 7), xor(8, 7), 8}, {xor(7, 8), xor(7, 8), 8},
	// Equal operands before one.
	{xor(4, 4), zero, here}, {xor(8, 8), zero, here},
	// A gate that becomes GateNot: of one, and of the wire of a GateNot.
	{xor(4, 8), zero, here}, {xor(8, 4), zero, here},
	{xor(4, 5), not(5), 0}, {xor(5, 4), not(5), 0}, {xor(8, 6), not(6), 1}, {xor(6, 8), not(6), 1},
}

// behind returns a circuit that consists of the prefix and some gates.
func behind(gates []api.Gate, outs ...int) api.Circuit {
	return made(3, slices.Concat(prefix, gates), outs...)
}

// P19.1: gates behind constants and opposites.
func TestFoldRows(t *testing.T) {
	for _, x := range slices.Concat(foldings, orders) {
		checkCall(t, fold, behind(list(x.gate), here), behind(list(x.want), x.wire))
		checkCall(t, fold, behind(list(x.gate), 2, here, 0, here, 3), behind(list(x.want), 2, x.wire, 0, x.wire, 3))
		checkCall(t, fold, behind(list(x.gate), 8), behind(list(x.want), 8))
		checkCall(t, fold, behind(list(x.gate)), behind(list(x.want)))
	}
}

// P19.1: the wire that stands for that of a gate stands in later gates, as a and as b.
func TestFoldLaterOperands(t *testing.T) {
	for _, x := range slices.Concat(foldings, orders) {
		// Gates that nothing folds: the wire 9 is a gate of the inputs, and the wires 10 and 11 are the gates that take part.
		free := behind(list(and(1, 2), x.gate, or(10, 9), xor(9, 10), and(2, 11)), 11, 12, 13, 10)
		wire := x.wire
		if wire == here {
			wire = 10
		}
		if wire == 10 && x.want.Op < api.GateNot || slices.Contains(constants, wire) {
			// Constants fold the later gates as well.
			checkModel(t, fold, free)
			continue
		}
		checkCall(t, fold, free, behind(list(and(1, 2), x.want, or(wire, 9), xor(9, wire), and(2, 11)), 11, 12, 13, wire))
	}
}

// aliases returns gates whose wires are all replaced by a wire, the last one by way of the others, if they stand from another wire on.
func aliases(wire, first int) []api.Gate {
	if slices.Contains(constants, wire) {
		// Of a constant, other gates would become constants themselves.
		return list(xor(3, wire), xor(7, first), xor(3, first+1), xor(3, first+2), xor(7, first+3), xor(7, first+4))
	}
	return list(or(wire, wire), and(first, wire), or(3, first+1), xor(first+2, 7), and(8, first+3), xor(3, first+4))
}

// P19.1: rows that apply only after wires were replaced: instead of a, of b, or of both.
func TestFoldReplacedOperands(t *testing.T) {
	for _, x := range slices.Concat(foldings, orders) {
		for n := 1; n <= 6; n++ {
			gates := slices.Concat(aliases(x.gate.A, here)[:n], aliases(x.gate.B, here+n)[:n])
			left, right := here+n-1, here+2*n-1
			kinds := [][2]int{{left, x.gate.B}, {x.gate.A, right}, {left, right}}
			if x.gate.Op == api.GateNot {
				kinds = [][2]int{{left, 0}}
			}
			for _, operands := range kinds {
				given := append(slices.Clone(gates), api.Gate{Op: x.gate.Op, A: operands[0], B: operands[1]})
				wire := x.wire
				if wire == here {
					wire = here + 2*n
				}
				got := checkModel(t, fold, behind(given, here+2*n))
				// The gate that stays has the operands after the replacement.
				if last := got.Gates[len(got.Gates)-1]; last != x.want || got.Outs[0] != wire {
					t.Errorf("behind %v the gate %v becomes %v, not %v, and the wire %d, not %d", gates, x.gate, last, x.want, got.Outs[0], wire)
				}
			}
		}
	}
}

// P19.1: circuits that are written down.
func TestFoldExamples(t *testing.T) {
	for _, x := range []struct{ c, want api.Circuit }{
		// The example of the chapter.
		{made(1, list(one, and(0, 1)), 2), made(1, list(one, and(0, 1)), 0)},
		// Nothing to fold.
		{api.Circuit{}, api.Circuit{}},
		{made(0, list(zero, one), 1, 0), made(0, list(zero, one), 1, 0)},
		{made(1000, nil, 999, 0, 999), made(1000, nil, 999, 0, 999)},
		{made(2, list(and(1, 0), and(0, 1), and(1, 0)), 2, 3, 4), made(2, list(and(1, 0), and(0, 1), and(1, 0)), 2, 3, 4)},
		// A wire is replaced by an input, by way of a wire that was replaced.
		{made(1, list(and(0, 0), or(1, 1), xor(2, 2), or(3, 2)), 1, 2, 3, 4), made(1, list(and(0, 0), or(0, 0), zero, or(3, 0)), 0, 0, 3, 0)},
		{made(1, list(not(0), not(1), not(2), not(3), not(4)), 5, 4, 3, 2, 1),
			made(1, list(not(0), not(1), not(0), not(3), not(0)), 5, 0, 3, 0, 1)},
		// Gates that become constants, and lead to others.
		{made(1, list(zero, not(1), not(2), and(3, 0), or(4, 2), xor(5, 0)), 6), made(1, list(zero, one, zero, zero, one, not(0)), 6)},
		{made(0, list(one, not(0), not(1), xor(0, 2), or(3, 3)), 4), made(0, list(one, zero, one, zero, or(3, 3)), 3)},
		// Exclusive ors of one and of gates that became zero or one: the former do not become GateNot.
		{made(1, list(one, not(0), and(2, 0), xor(1, 3), xor(3, 1)), 4, 5), made(1, list(one, not(0), zero, xor(1, 3), xor(3, 1)), 1, 1)},
		{made(1, list(one, not(0), or(2, 0), xor(1, 3), xor(3, 1)), 4, 5), made(1, list(one, not(0), one, zero, zero), 4, 5)},
		// A gate GateXor becomes GateNot, which others have as their opposite or as the operand of a GateNot.
		{made(1, list(one, xor(1, 0), and(2, 0)), 3, 2), made(1, list(one, not(0), zero), 3, 2)},
		{made(1, list(one, xor(0, 1), or(0, 2), not(2)), 3, 4), made(1, list(one, not(0), one, not(2)), 3, 0)},
		{made(1, list(one, xor(0, 1), xor(1, 2), xor(3, 2)), 4, 3), made(1, list(one, not(0), not(2), one), 4, 0)},
		// The opposite of the wire of a GateNot.
		{made(1, list(not(0), not(1), and(2, 1)), 3), made(1, list(not(0), not(1), zero), 3)},
		// Equal gates are not equal operands, and the opposite of a gate is not that of an equal one.
		{made(2, list(and(0, 1), and(0, 1), xor(2, 3)), 4), made(2, list(and(0, 1), and(0, 1), xor(2, 3)), 4)},
		{made(2, list(and(0, 1), and(0, 1), not(3), or(2, 4)), 5), made(2, list(and(0, 1), and(0, 1), not(3), or(2, 4)), 5)},
		{made(1, list(not(0), not(0), xor(1, 2)), 3), made(1, list(not(0), not(0), xor(1, 2)), 3)},
		// Constants that only an assignment shows are none.
		{made(2, list(and(0, 1), not(0), and(2, 3)), 4), made(2, list(and(0, 1), not(0), and(2, 3)), 4)},
		// Gates that nothing needs are folded too.
		{made(2, list(one, or(0, 2), xor(2, 1)), 0), made(2, list(one, one, not(1)), 0)},
	} {
		checkCall(t, fold, x.c, x.want)
	}
}

// P19.1: all gates behind the prefix, and all pairs of gates, the second one of which has the first one as an operand.
func TestFoldEveryGate(t *testing.T) {
	for _, first := range everyGate(here) {
		checkModel(t, fold, behind(list(first), here))
		for wire := range here + 1 {
			for _, second := range list(not(here), and(here, wire), and(wire, here), or(here, wire), or(wire, here), xor(here, wire), xor(wire, here)) {
				checkModel(t, fold, behind(list(first, second), here, here+1))
			}
		}
	}
}

// P19.1: random circuits, in which all rows are used.
func TestFoldRandom(t *testing.T) {
	uses := make([]int, len(rows))
	randomCircuits(191, 4000, func(_ *rand.Rand, c api.Circuit) {
		checkModel(t, fold, c)
		c = laidOut(c)
		for i := range c.Gates {
			for _, n := range foldGate(c, i, nil) {
				uses[n]++
			}
		}
	})
	if slices.Min(uses) < 100 {
		t.Error("the rows are used so many times:", uses)
	}
}

// P19.1: a circuit that is folded may be folded further only after equal gates are shared.
func TestFoldTwice(t *testing.T) {
	c := made(2, list(and(0, 1), and(1, 0), xor(2, 3)), 4)
	if got := optimize.Fold(c); !circuit.Same(got, c) {
		t.Errorf("Fold leads from %s to %s", show(c), show(got))
	}
	if got := optimize.Fold(optimize.Share(c)); got.Gates[2] != zero {
		t.Errorf("Fold after Share leads from %s to %s", show(c), show(got))
	}
}
