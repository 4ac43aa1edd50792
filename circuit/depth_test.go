package circuit_test

import (
	"math/rand"
	"slices"
	"testing"

	"cellular/api"
	"cellular/circuit"
)

// checkDepth compares Depth with the expected result.
func checkDepth(t *testing.T, c api.Circuit, want int) {
	t.Helper()
	unchanged(t, c, func(c api.Circuit) {
		if got := circuit.Depth(c); got != want {
			t.Errorf("Depth of the circuit %s is %d, not %d", show(c), got, want)
		}
	})
}

// P17.4: circuits that are written down.
func TestDepthExamples(t *testing.T) {
	for _, x := range []struct {
		c    api.Circuit
		want int
	}{
		// The example of the chapter.
		{made(2, []api.Gate{xor(0, 1), and(0, 1)}, 2, 3), 1},
		// No outputs.
		{api.Circuit{}, 0}, {made(5, nil), 0}, {made(2, []api.Gate{xor(0, 1), not(2)}), 0}, {made(0, []api.Gate{one, not(0)}), 0},
		// Outputs that are inputs.
		{made(1, nil, 0), 0}, {same(10), 0}, {made(2, []api.Gate{xor(0, 1), not(2)}, 1, 0), 0}, {made(3, nil, 2, 2, 2), 0},
		// Gates without operands, also behind other gates.
		{made(0, []api.Gate{zero}, 0), 1}, {made(0, []api.Gate{one}, 0), 1}, {made(1, []api.Gate{one}, 1), 1}, {made(1, []api.Gate{zero}, 0), 0},
		{made(0, []api.Gate{zero, one, zero, one, one}, 4, 3, 2, 1, 0), 1}, {made(1, []api.Gate{not(0), not(1), zero}, 3), 1},
		{made(1, []api.Gate{not(0), not(1), one}, 3), 1}, {made(0, []api.Gate{one, not(0), not(1), zero}, 3), 1},
		{made(0, []api.Gate{one, not(0)}, 1), 2}, {made(0, []api.Gate{zero, one, and(0, 1)}, 2), 2}, {made(1, []api.Gate{one, xor(0, 1)}, 2), 2},
		{made(1, []api.Gate{one, xor(1, 0)}, 2), 2}, {made(0, []api.Gate{one, one, not(1)}, 2), 2},
		// The first operand is deeper, or the second one, or both are the same.
		{made(2, []api.Gate{not(0), not(2), and(3, 1)}, 4), 3}, {made(2, []api.Gate{not(0), not(2), and(1, 3)}, 4), 3},
		{made(2, []api.Gate{not(0), not(2), or(2, 3)}, 4), 3}, {made(2, []api.Gate{not(0), not(2), xor(3, 2)}, 4), 3},
		{made(2, []api.Gate{not(0), not(2), xor(3, 3)}, 4), 3}, {made(2, []api.Gate{not(0), not(2), or(0, 1)}, 4), 1},
		// The deepest gate is no output.
		{made(1, []api.Gate{not(0), not(1), not(2)}, 1), 1}, {made(1, []api.Gate{not(0), not(1), not(2)}, 2, 1), 2},
		{made(1, []api.Gate{not(0), not(1), not(0)}, 3), 1}, {made(2, []api.Gate{and(0, 1), or(2, 0), xor(3, 2), not(1)}, 0, 5), 1},
		// The deepest output is the first one, one in between, or the last one.
		{made(1, []api.Gate{not(0), not(1), not(2)}, 3, 0, 1), 3}, {made(1, []api.Gate{not(0), not(1), not(2)}, 0, 3, 1), 3},
		{made(1, []api.Gate{not(0), not(1), not(2)}, 2, 0, 3), 3}, {made(1, []api.Gate{not(0), not(1), not(2)}, 3, 3), 3},
		// Circuits that are not valid.
		{made(1, []api.Gate{not(0), not(1)}, 2, 3), 0}, {made(1, []api.Gate{not(0), not(1)}, 2, -1), 0},
		{made(1, []api.Gate{not(0), {Op: 6}}, 1), 0},
		{made(1, []api.Gate{not(0), not(2)}, 1), 0}, {made(1, []api.Gate{not(1), not(1)}, 2), 0}, {made(1, []api.Gate{{B: 1}, not(1)}, 2), 0},
		{made(-1, []api.Gate{one}, 0), 0}, {made(1001, []api.Gate{one}, 1001), 0}, {made(1, slices.Repeat([]api.Gate{not(0)}, 20001), 1), 0},
		{made(1, []api.Gate{not(0)}, slices.Repeat([]int{1}, 1001)...), 0},
	} {
		if got := depthModel(x.c); got != x.want {
			t.Errorf("the model has the depth %d for the circuit %s", got, show(x.c))
		}
		checkDepth(t, x.c, x.want)
	}
}

// P17.4: long chains, of each operation and through each operand.
func TestDepthChains(t *testing.T) {
	for _, n := range []int{1, 2, 3, 255, 256, 257, 1000, 19999, 20000} {
		for _, inputs := range []int{1, 2, 1000} {
			for op := api.GateNot; op <= api.GateXor; op++ {
				gates := chain(op, inputs, n)
				checkDepth(t, made(inputs, gates, inputs+n-1), n)
				checkDepth(t, made(inputs, gates, 0), 0)
				checkDepth(t, made(inputs, gates, inputs+n/2), n/2+min(n-n/2, 1))
				checkDepth(t, made(inputs, gates, inputs+n-1, 0, inputs), n)
				if op == api.GateNot {
					continue
				}
				first, second := slices.Clone(gates), slices.Clone(gates)
				for i := range gates {
					first[i].B, second[i].A = 0, 0
				}
				checkDepth(t, made(inputs, first, 0, inputs+n-1), n)
				checkDepth(t, made(inputs, second, inputs+n-1, 0), n)
			}
		}
		// The chain begins with a gate without operands.
		checkDepth(t, made(0, append([]api.Gate{one}, chain(api.GateNot, 1, n-1)...), n-1), n)
		checkDepth(t, made(1, append([]api.Gate{zero}, chain(api.GateAnd, 2, n-1)...), n), n)
	}
	checkDepth(t, made(1, slices.Repeat([]api.Gate{not(0)}, 20000), upTo(1000)...), 1)
	checkDepth(t, made(0, slices.Repeat([]api.Gate{one}, 20000), upTo(1000)...), 1)
}

// P17.4: a tree whose gates combine two halves of the inputs.
func TestDepthTrees(t *testing.T) {
	for depth := range 10 {
		c := made(1<<depth, nil)
		for i := range 1<<depth - 1 {
			c.Gates = append(c.Gates, or(2*i, 2*i+1))
		}
		c.Outs = []int{2<<depth - 2}
		checkDepth(t, c, depth)
	}
}

// P17.4: adders, whose carries pass through all digits.
func TestDepthAdders(t *testing.T) {
	for n := 1; n < 20; n++ {
		checkDepth(t, adder(n), depthModel(adder(n)))
		if got := circuit.Depth(adder(n)); got != 2*n+1 {
			t.Errorf("the depth of an adder of %d digits is %d", n, got)
		}
	}
}

// P17.4: all circuits with up to three gates, with each wire as the only output, and all of them.
func TestDepthSmall(t *testing.T) {
	for inputs := range 3 {
		for gates := range 4 {
			for _, c := range everyCircuit(inputs, gates) {
				for wire := range c.Outs {
					single := made(inputs, c.Gates, wire)
					if got := circuit.Depth(single); got != depthModel(single) {
						t.Fatalf("Depth of the circuit %s is %d, not %d", show(single), got, depthModel(single))
					}
				}
				if got := circuit.Depth(c); got != depthModel(c) {
					t.Fatalf("Depth of the circuit %s is %d, not %d", show(c), got, depthModel(c))
				}
			}
		}
	}
}

// P17.4: random circuits, valid and not.
func TestDepthRandom(t *testing.T) {
	rng := rand.New(rand.NewSource(179))
	for range 2000 {
		c := randomCircuit(rng, rng.Intn(6), rng.Intn(60), rng.Intn(6))
		checkDepth(t, c, depthModel(c))
		other := broken(rng, c)
		checkDepth(t, other, depthModel(other))
	}
	c := largest(rng)
	checkDepth(t, c, depthModel(c))
}
