package optimize_test

import (
	"math/rand"
	"slices"
	"testing"

	"cellular/api"
)

// pairs are the operations with two operands, as functions that return gates.
var pairs = []func(a, b int) api.Gate{and, or, xor}

// P19.2: circuits that are written down.
func TestShareExamples(t *testing.T) {
	for _, x := range []struct{ c, want api.Circuit }{
		// The example of the chapter.
		{made(2, list(and(0, 1), and(1, 0), xor(2, 3)), 4), made(2, list(and(0, 1), and(0, 1), xor(2, 2)), 4)},
		// Nothing to share.
		{api.Circuit{}, api.Circuit{}},
		{made(1000, nil, 999, 0, 999), made(1000, nil, 999, 0, 999)},
		{made(2, list(and(0, 1), or(0, 1), xor(0, 1), not(0), not(1), zero, one), 8, 0),
			made(2, list(and(0, 1), or(0, 1), xor(0, 1), not(0), not(1), zero, one), 8, 0)},
		// Constants and negations.
		{made(0, list(zero, zero, zero), 0, 1, 2), made(0, list(zero, zero, zero), 0, 0, 0)},
		{made(0, list(one, one, one), 2, 1, 0), made(0, list(one, one, one), 0, 0, 0)},
		{made(3, list(zero, one, zero, one, zero), 3, 4, 5, 6, 7), made(3, list(zero, one, zero, one, zero), 3, 4, 3, 4, 3)},
		{made(2, list(not(1), not(0), not(1), not(0)), 2, 3, 4, 5), made(2, list(not(1), not(0), not(1), not(0)), 2, 3, 2, 3)},
		{made(0, list(zero, one, not(0), not(1), not(0)), 4, 3, 2), made(0, list(zero, one, not(0), not(1), not(0)), 2, 3, 2)},
		// The operands of GateNot are not exchanged: the wire 0 as B is none.
		{made(3, list(not(2), not(0), not(2)), 5), made(3, list(not(2), not(0), not(2)), 3)},
		// A gate GateZero has the same A and B as others, but not the same operation.
		{made(1, list(zero, one, not(0), and(0, 0), or(0, 0), xor(0, 0)), 1, 2, 3, 4, 5, 6),
			made(1, list(zero, one, not(0), and(0, 0), or(0, 0), xor(0, 0)), 1, 2, 3, 4, 5, 6)},
		// Gates that become equal only after a wire was replaced, as a, as b, as both, and with an exchange.
		{made(2, list(not(0), not(0), and(2, 1), and(3, 1)), 4, 5), made(2, list(not(0), not(0), and(1, 2), and(1, 2)), 4, 4)},
		{made(2, list(not(0), not(0), or(1, 3), or(1, 2)), 4, 5), made(2, list(not(0), not(0), or(1, 2), or(1, 2)), 4, 4)},
		{made(1, list(not(0), not(0), xor(1, 2), xor(2, 1), xor(2, 2)), 3, 4, 5),
			made(1, list(not(0), not(0), xor(1, 1), xor(1, 1), xor(1, 1)), 3, 3, 3)},
		{made(1, list(not(0), not(0), not(1), not(2)), 4, 3), made(1, list(not(0), not(0), not(1), not(1)), 3, 3)},
		{made(1, list(one, not(0), one, and(1, 2), and(3, 2), and(2, 3)), 6, 5, 4),
			made(1, list(one, not(0), one, and(1, 2), and(1, 2), and(1, 2)), 4, 4, 4)},
		// Operands are exchanged by their order after the replacement: in place of the wire 4 stands 2, which is less than 3.
		{made(2, list(and(0, 1), or(0, 1), and(1, 0), xor(4, 3), xor(3, 4)), 5, 6),
			made(2, list(and(0, 1), or(0, 1), and(0, 1), xor(2, 3), xor(2, 3)), 5, 5)},
		{made(2, list(and(0, 1), or(0, 1), and(1, 0), xor(3, 4)), 5), made(2, list(and(0, 1), or(0, 1), and(0, 1), xor(2, 3)), 5)},
		// Chains of gates that are equal one after the other.
		{made(1, list(not(0), not(0), not(1), not(2), not(3), not(4), and(5, 6), and(6, 5), and(6, 6)), 9, 8, 7, 6),
			made(1, list(not(0), not(0), not(1), not(1), not(3), not(3), and(5, 5), and(5, 5), and(5, 5)), 7, 7, 7, 5)},
		// The third of three equal gates is replaced by the first one, as the second one was replaced itself.
		{made(2, list(or(0, 1), or(1, 0), or(0, 1)), 2, 3, 4), made(2, list(or(0, 1), or(0, 1), or(0, 1)), 2, 2, 2)},
		{made(2, list(or(1, 0), or(0, 1), or(1, 0), not(4), not(3), not(2)), 5, 6, 7),
			made(2, list(or(0, 1), or(0, 1), or(0, 1), not(2), not(2), not(2)), 5, 5, 5)},
		// Outputs that are replaced, several times, besides others and inputs.
		{made(2, list(xor(0, 1), xor(1, 0)), 3, 0, 3, 2, 1, 3), made(2, list(xor(0, 1), xor(0, 1)), 2, 0, 2, 2, 1, 2)},
		// Gates that nothing needs replace others that are needed.
		{made(2, list(and(0, 1), not(0), and(0, 1)), 4), made(2, list(and(0, 1), not(0), and(0, 1)), 2)},
		// Nothing is folded.
		{made(1, list(zero, one, not(1), and(0, 0), and(2, 0), or(0, 1), not(0), not(7), xor(0, 7)), 3, 4, 5, 6, 8, 9),
			made(1, list(zero, one, not(1), and(0, 0), and(0, 2), or(0, 1), not(0), not(7), xor(0, 7)), 3, 4, 5, 6, 8, 9)},
	} {
		checkCall(t, share, x.c, x.want)
	}
}

// P19.2: operands are exchanged if a is greater than b, whatever wires they are.
func TestShareOrder(t *testing.T) {
	for inputs := range 4 {
		for _, pair := range pairs {
			for a := range inputs + 2 {
				for b := range inputs + 2 {
					want := pair(min(a, b), max(a, b))
					c := made(inputs, list(zero, one, pair(a, b)), inputs+2)
					checkCall(t, share, c, made(inputs, list(zero, one, want), inputs+2))
					// An equal gate, and one with the other order.
					c = made(inputs, list(zero, one, pair(a, b), pair(a, b), pair(b, a)), inputs+3, inputs+4, inputs+2)
					checkCall(t, share, c, made(inputs, list(zero, one, want, want, want), inputs+2, inputs+2, inputs+2))
				}
			}
		}
	}
}

// P19.2: equal gates of each operation, with any gates between them, and the gates that need them.
func TestShareOperations(t *testing.T) {
	between := list(zero, one, not(1), and(0, 2), or(0, 2), xor(0, 2))
	for _, g := range list(zero, one, not(0), not(2), and(0, 1), and(1, 1), or(1, 2), xor(2, 2)) {
		for n := range len(between) + 1 {
			gates := slices.Concat(list(g), between[:n], list(g, and(3, n+4), not(n+4)))
			want := slices.Concat(list(g), between[:n], list(g, and(3, 3), not(3)))
			outs, wanted := []int{n + 4, n + 5, n + 6, 3}, []int{3, n + 5, n + 6, 3}
			if first := slices.Index(between[:n], g); first >= 0 {
				// The gate between is equal too, and stands behind the first one.
				checkModel(t, share, made(3, gates, outs...))
				continue
			}
			checkCall(t, share, made(3, gates, outs...), made(3, want, wanted...))
		}
	}
}

// P19.2: gates that differ in their operation, or in one operand, are not equal.
func TestShareDifferent(t *testing.T) {
	gates := everyGate(4)
	for i, first := range gates {
		for k, second := range gates {
			c := made(4, list(first, second), 5)
			got := checkModel(t, share, c)
			isEqual := i == k || first.Op == second.Op && first.Op >= api.GateAnd && first.A == second.B && first.B == second.A
			if isEqual != (got.Outs[0] == 4) {
				t.Errorf("of the gates %v and %v the second one has the wire %d", first, second, got.Outs[0])
			}
		}
	}
}

// P19.2: many equal gates, in many groups.
func TestShareGroups(t *testing.T) {
	rng := rand.New(rand.NewSource(192))
	for groups := 1; groups <= 20; groups++ {
		c := made(6, nil)
		var kinds []api.Gate
		for range groups {
			kinds = append(kinds, pairs[rng.Intn(3)](rng.Intn(6), rng.Intn(6)))
		}
		first := map[api.Gate]int{}
		var want []int
		for i := range 200 {
			g := kinds[rng.Intn(groups)]
			if rng.Intn(2) == 0 {
				g.A, g.B = g.B, g.A
			}
			c.Gates, c.Outs = append(c.Gates, g), append(c.Outs, 6+i)
			g.A, g.B = min(g.A, g.B), max(g.A, g.B)
			if _, is := first[g]; !is {
				first[g] = 6 + i
			}
			want = append(want, first[g])
		}
		if got := checkModel(t, share, c); !slices.Equal(got.Outs, want) {
			t.Errorf("Share leads from %s to the outputs %v, not to %v", show(c), got.Outs, want)
		}
	}
}

// P19.2: random circuits.
func TestShareRandom(t *testing.T) {
	changed := 0
	randomCircuits(193, 4000, func(_ *rand.Rand, c api.Circuit) {
		got := checkModel(t, share, c)
		if !slices.Equal(got.Outs, c.Outs) {
			changed++
		}
	})
	if changed < 400 {
		t.Error("the outputs were replaced in so many circuits:", changed)
	}
}
