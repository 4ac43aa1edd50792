package optimize_test

import (
	"math/rand"
	"slices"
	"testing"

	"cellular/api"
	"cellular/circuit"
	"cellular/optimize"
)

// chain returns n gates, each of which has the wire before it as its operands. The first one has the wire before a number.
func chain(gate func(wire int) api.Gate, first, n int) []api.Gate {
	gates := make([]api.Gate, n)
	for i := range gates {
		gates[i] = gate(first + i - 1)
	}
	return gates
}

// checkResult compares a function with an expected result, without the model.
func checkResult(t *testing.T, f call, c, want api.Circuit) {
	t.Helper()
	if got := checkShape(t, f, c); !circuit.Same(got, want) {
		t.Errorf("%s leads from %s to %s, not to %s", f.name, show(c), show(got), show(want))
	}
}

// repeatedGates returns a circuit with the greatest number of gates, all of which are equal.
func repeatedGates(inputs int, g api.Gate, outs ...int) api.Circuit {
	return made(inputs, slices.Repeat(list(g), 20000), outs...)
}

// P19.1 and P19.4: chains with the greatest number of gates.
func TestLimitChains(t *testing.T) {
	twice := func(pair func(a, b int) api.Gate) func(wire int) api.Gate {
		return func(wire int) api.Gate { return pair(wire, wire) }
	}
	for _, inputs := range []int{1, 2, 1000} {
		last := inputs + 19999
		for _, pair := range []func(a, b int) api.Gate{and, or} {
			c := made(inputs, chain(twice(pair), inputs, 20000), last, inputs)
			checkResult(t, fold, c, repeatedGates(inputs, pair(inputs-1, inputs-1), inputs-1, inputs-1))
			checkResult(t, share, c, c)
			checkResult(t, trim, c, c)
			checkResult(t, all, c, made(inputs, nil, inputs-1, inputs-1))
		}
		// A gate GateXor of two equal wires is zero, and so are the others, whose wires are replaced by that of the first one.
		c := made(inputs, chain(twice(xor), inputs, 20000), last)
		folded := repeatedGates(inputs, xor(inputs, inputs), inputs)
		folded.Gates[0] = zero
		checkResult(t, fold, c, folded)
		checkResult(t, all, c, made(inputs, list(zero), inputs))
		// Of gates GateNot each second one is replaced.
		c = made(inputs, chain(not, inputs, 20000), last, last-1)
		folded = made(inputs, nil, inputs-1, last-1)
		for i := 0; i < 20000; i += 2 {
			folded.Gates = append(folded.Gates, not(inputs-1), not(inputs+i))
		}
		checkResult(t, fold, c, folded)
		checkResult(t, trim, c, c)
		checkResult(t, all, c, made(inputs, list(not(inputs-1)), inputs-1, inputs))
	}
}

// P19.2, P19.3 and P19.4: the greatest number of equal gates.
func TestLimitEqualGates(t *testing.T) {
	outs := upTo(21000)[20000:]
	for _, g := range list(zero, one, not(999), and(0, 999), or(0, 999), xor(0, 999)) {
		c := repeatedGates(1000, g, outs...)
		want := slices.Repeat([]int{1000}, 1000)
		checkResult(t, fold, c, c)
		checkResult(t, share, c, repeatedGates(1000, g, want...))
		checkResult(t, trim, c, made(1000, slices.Repeat(list(g), 1000), upTo(2000)[1000:]...))
		checkResult(t, all, c, made(1000, list(g), want...))
	}
}

// P19.4 and P19.6: a circuit with the greatest numbers that is optimized already: 10000 pairs of inputs, and what combines them.
func TestLimitFixed(t *testing.T) {
	c := made(1000, nil, upTo(1000)...)
	for b := 1; len(c.Gates) < 10000; b++ {
		for a := 0; a < b && len(c.Gates) < 10000; a++ {
			c.Gates = append(c.Gates, and(a, b))
		}
	}
	for i := range 10000 {
		c.Gates = append(c.Gates, xor(1000+i, 10999+i))
	}
	c.Outs[999] = 20999
	for _, f := range calls {
		checkResult(t, f, c, c)
	}
}

// P19.4: the greatest number of gates, a few of which are removed in each of thousands of rounds.
func TestLimitRounds(t *testing.T) {
	c := layers(6666)
	if len(c.Gates) != 20000 {
		t.Errorf("there are %d gates", len(c.Gates))
	}
	checkResult(t, all, c, made(2, list(and(0, 1)), 2))
}

// P19.1 to P19.5: random circuits with the greatest numbers of inputs, of gates and of outputs.
func TestLimitRandom(t *testing.T) {
	rng := rand.New(rand.NewSource(1914))
	for range 20 {
		c := randomCircuit(rng, 1000, 20000, 1000)
		c.Outs[0], c.Outs[999] = 0, 20999
		for _, f := range calls {
			got := checkShape(t, f, c)
			checkWords(t, rng, c, got)
			checkEval(t, c, got, randomInput(rng, 1000))
		}
		got := optimize.All(c)
		if want := repeated(c); !circuit.Same(got, want) {
			t.Errorf("All leads from %s to %s, and the other functions lead to %s", show(c), show(got), show(want))
		}
		if l := faults(got); len(l) > 0 {
			t.Errorf("All leads from %s to %s: %v", show(c), show(got), l[:1])
		}
		checkResult(t, all, got, got)
	}
}

// P19.1 to P19.4: a random circuit with the greatest numbers, compared with the model.
func TestLimitModel(t *testing.T) {
	c := randomCircuit(rand.New(rand.NewSource(1915)), 1000, 20000, 1000)
	for _, f := range calls {
		checkModel(t, f, c)
	}
}
