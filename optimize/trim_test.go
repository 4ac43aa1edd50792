package optimize_test

import (
	"math/rand"
	"slices"
	"testing"

	"cellular/api"
	"cellular/circuit"
	"cellular/optimize"
)

// P19.3: circuits that are written down.
func TestTrimExamples(t *testing.T) {
	for _, x := range []struct{ c, want api.Circuit }{
		// The example of the chapter, before and after Fold.
		{made(1, list(one, and(0, 1)), 2), made(1, list(one, and(0, 1)), 2)},
		{made(1, list(one, and(0, 1)), 0), made(1, nil, 0)},
		// Without gates, without outputs, or without both.
		{api.Circuit{}, api.Circuit{}},
		{made(1000, nil), made(1000, nil)},
		{made(1000, nil, 999, 0, 999), made(1000, nil, 999, 0, 999)},
		{made(0, list(zero, one, not(0), and(1, 2))), made(0, nil)},
		{made(2, list(and(0, 1), or(0, 1), xor(2, 3))), made(2, nil)},
		// The gate that is not needed stands at the beginning, in the middle, or at the end.
		{made(2, list(or(0, 1), and(0, 1), not(1), xor(3, 4)), 5), made(2, list(and(0, 1), not(1), xor(2, 3)), 4)},
		{made(2, list(and(0, 1), or(0, 1), not(1), xor(2, 4)), 5), made(2, list(and(0, 1), not(1), xor(2, 3)), 4)},
		{made(2, list(and(0, 1), not(1), or(0, 1), xor(2, 3)), 5), made(2, list(and(0, 1), not(1), xor(2, 3)), 4)},
		{made(2, list(and(0, 1), not(1), xor(2, 3), or(0, 1)), 4), made(2, list(and(0, 1), not(1), xor(2, 3)), 4)},
		// At all these places.
		{made(1, list(zero, not(0), one, not(2), or(1, 4), and(4, 2), xor(5, 6)), 6), made(1, list(not(0), not(1), and(2, 1)), 3)},
		// Gates that only gates need that are not needed.
		{made(2, list(and(0, 1), not(2), not(3), not(4), not(1)), 6), made(2, list(not(1)), 2)},
		{made(2, list(and(0, 1), not(2), not(3), not(4), not(1)), 3, 6), made(2, list(and(0, 1), not(2), not(1)), 3, 4)},
		// Gates that only A needs, or only B, or both, or several gates.
		{made(1, list(not(0), not(1), and(0, 2)), 3), made(1, list(not(0), not(1), and(0, 2)), 3)},
		{made(1, list(not(0), not(1), and(2, 0)), 3), made(1, list(not(0), not(1), and(2, 0)), 3)},
		{made(1, list(zero, not(0), xor(2, 2), or(3, 3)), 4), made(1, list(not(0), xor(1, 1), or(2, 2)), 3)},
		{made(2, list(zero, and(0, 1), not(3), or(3, 4), xor(4, 5)), 6), made(2, list(and(0, 1), not(2), or(2, 3), xor(3, 4)), 5)},
		// An operation that has no operands does not need the wire 0, nor does a GateNot as B, and these zeros remain.
		{made(0, list(zero, one), 1), made(0, list(one), 0)},
		{made(0, list(one, zero, zero, not(1)), 3), made(0, list(zero, not(0)), 1)},
		{made(0, list(one, zero, not(1), zero, not(2), one), 4, 3, 5), made(0, list(zero, not(0), zero, not(1), one), 3, 2, 4)},
		{made(0, list(one, zero, one, or(2, 1)), 3), made(0, list(zero, one, or(1, 0)), 2)},
		// Outputs that are inputs, the same ones, or in any order.
		{made(3, list(and(0, 1), or(1, 2)), 2, 0, 1), made(3, nil, 2, 0, 1)},
		{made(3, list(and(0, 1), or(1, 2)), 4, 4, 2, 4, 0), made(3, list(or(1, 2)), 3, 3, 2, 3, 0)},
		{made(2, list(and(0, 1), zero, or(0, 1), one, not(2)), 6, 2, 4, 2, 6, 1), made(2, list(and(0, 1), or(0, 1), not(2)), 4, 2, 3, 2, 4, 1)},
		// Equal gates, constants and operands in any order stay as they are.
		{made(2, list(and(1, 0), and(0, 1), and(1, 0), xor(4, 3), zero, or(6, 5)), 7), made(2, list(and(0, 1), and(1, 0), xor(3, 2), zero, or(5, 4)), 6)},
		// The inputs stay, though nothing needs them.
		{made(5, list(zero, one), 6), made(5, list(one), 5)},
	} {
		checkCall(t, trim, x.c, x.want)
	}
}

// P19.3: each gate of a chain as the only output, with gates between that nothing needs.
func TestTrimChains(t *testing.T) {
	for inputs := 1; inputs <= 3; inputs++ {
		for _, spare := range [][]api.Gate{nil, list(zero), list(one, and(0, 0))} {
			c := made(inputs, nil)
			last := inputs - 1
			var want []api.Gate
			for i := range 12 {
				c.Gates = append(append(c.Gates, spare...), or(0, last))
				before := inputs - 1
				if i > 0 {
					before = inputs + i - 1
				}
				want = append(want, or(0, before))
				last = inputs + len(c.Gates) - 1
				c.Outs = []int{last, 0, last}
				checkCall(t, trim, c, made(inputs, want, inputs+i, 0, inputs+i))
			}
			for i := range c.Gates {
				c.Outs = []int{inputs + i}
				checkModel(t, trim, c)
			}
		}
	}
}

// P19.3: all sets of outputs of a circuit.
func TestTrimEveryOuts(t *testing.T) {
	c := made(2, list(and(0, 1), zero, not(2), or(4, 3), one, xor(1, 4), and(7, 5), not(0)))
	for set := range 1 << 10 {
		c.Outs = nil
		for wire := range 10 {
			if set>>wire&1 == 1 {
				c.Outs = append(c.Outs, wire)
			}
		}
		checkModel(t, trim, c)
		slices.Reverse(c.Outs)
		checkModel(t, trim, c)
	}
}

// P19.3: circuits of gates that are all needed stay as they are, with any gates between them.
func TestTrimSpareGates(t *testing.T) {
	rng := rand.New(rand.NewSource(194))
	for range 500 {
		want := optimize.Trim(randomCircuit(rng, rng.Intn(4), 25, 1+rng.Intn(3)))
		checkCall(t, trim, want, want)
		c := laidOut(want)
		for range 10 {
			i := rng.Intn(len(c.Gates) + 1)
			spare := randomGate(rng, c.Inputs+i)
			eachPlace(c, i, func(wire *int) {
				if *wire >= c.Inputs+i {
					*wire++
				}
			})
			c.Gates = slices.Insert(c.Gates, i, spare)
			checkCall(t, trim, c, want)
		}
	}
}

// P19.3: random circuits.
func TestTrimRandom(t *testing.T) {
	kept, removed := 0, 0
	randomCircuits(195, 4000, func(_ *rand.Rand, c api.Circuit) {
		got := checkModel(t, trim, c)
		kept += len(got.Gates)
		removed += len(c.Gates) - len(got.Gates)
	})
	if kept < 10000 || removed < 10000 {
		t.Errorf("there were %d gates that are needed, and %d others", kept, removed)
	}
}

// P19.6: a circuit that was trimmed stays as it is.
func TestTrimTwice(t *testing.T) {
	check := func(c api.Circuit) {
		first := optimize.Trim(c)
		if second := optimize.Trim(first); !circuit.Same(first, second) {
			t.Errorf("Trim leads from %s to %s, and this to %s", show(c), show(first), show(second))
		}
	}
	randomCircuits(196, 4000, func(_ *rand.Rand, c api.Circuit) {
		check(c)
		check(optimize.Fold(c))
		check(optimize.Share(c))
	})
}
