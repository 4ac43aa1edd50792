package optimize_test

import (
	"fmt"
	"math/rand"
	"slices"
	"testing"

	"cellular/api"
	"cellular/circuit"
	"cellular/optimize"
)

// layers returns a circuit with two inputs whose output is that of the gate GateAnd of both. Each layer is folded only after the last gate of
// the layer before it turned out to be equal to the first gate, so each one takes a round.
func layers(n int) api.Circuit {
	c := made(2, list(and(0, 1), and(1, 0)))
	for range n {
		last := 1 + len(c.Gates)
		c.Gates = append(c.Gates, xor(last, 2), or(0, last+1), and(1, last+2))
	}
	c.Outs = []int{1 + len(c.Gates)}
	return c
}

// P19.4: circuits that are written down.
func TestAllExamples(t *testing.T) {
	for _, x := range []struct{ c, want api.Circuit }{
		// The examples of the chapter.
		{made(1, list(one, and(0, 1)), 2), made(1, nil, 0)},
		{made(2, list(and(0, 1), and(1, 0), xor(2, 3)), 4), made(2, list(zero), 2)},
		// Nothing changes.
		{api.Circuit{}, api.Circuit{}},
		{made(1000, nil, 999, 0, 999), made(1000, nil, 999, 0, 999)},
		{made(2, list(and(0, 1), or(0, 1), not(2), xor(3, 4)), 5, 3), made(2, list(and(0, 1), or(0, 1), not(2), xor(3, 4)), 5, 3)},
		// Constants remain where outputs need them.
		{made(1, list(one, zero, one, not(2), xor(1, 3)), 1, 2, 3, 4, 5), made(1, list(one, zero), 1, 2, 1, 1, 2)},
		{made(0, list(zero, not(0), not(1), or(1, 2)), 3, 2), made(0, list(zero, one), 1, 0)},
		{made(1, list(and(0, 0), not(1), xor(1, 2), or(3, 2)), 4), made(1, list(one), 1)},
		// Only the operands are exchanged.
		{made(2, list(and(1, 0)), 2), made(2, list(and(0, 1)), 2)},
		{made(3, list(or(2, 0), xor(3, 1)), 4), made(3, list(or(0, 2), xor(1, 3)), 4)},
		// Gates are needed no more after others were folded or shared.
		{made(2, list(not(0), and(0, 2), or(3, 1)), 4), made(2, nil, 1)},
		{made(2, list(not(0), not(1), not(0), or(2, 3), or(3, 4), xor(5, 6), or(7, 1)), 8), made(2, nil, 1)},
		// The sum of two bits and a carry, of which the last one is zero.
		{made(2, list(zero, xor(0, 1), xor(3, 2), and(0, 1), and(3, 2), or(5, 6)), 4, 7), made(2, list(xor(0, 1), and(0, 1)), 2, 3)},
		// A multiplexer both of whose inputs are the same wire is not folded, as no rule says so.
		{made(2, list(not(0), and(0, 1), and(2, 1), or(3, 4)), 5), made(2, list(not(0), and(0, 1), and(1, 2), or(3, 4)), 5)},
		// The exclusive or of an input and its opposite of an opposite.
		{made(1, list(not(0), not(1), xor(0, 2)), 3), made(1, list(zero), 1)},
	} {
		checkCall(t, all, x.c, x.want)
	}
}

// P19.4: circuits that need many rounds.
func TestAllRounds(t *testing.T) {
	for n := range 40 {
		c, want := layers(n), made(2, list(and(0, 1)), 2)
		checkCall(t, all, c, want)
		if _, rounds := allModel(c); rounds != n+1 {
			t.Errorf("%d layers take %d rounds", n, rounds)
		}
		// The layers need not be in one piece, nor be the only gates.
		double, _ := circuit.Join(made(2, nil, 0, 1, 0, 1), made(4, nil, 0, 1))
		double, _ = circuit.Join(double, c)
		checkCall(t, all, double, want)
		c.Outs = append(c.Outs, 0, 3, 2)
		checkCall(t, all, c, made(2, list(and(0, 1)), 2, 0, 2, 2))
	}
}

// repeated returns what the promise says of All, by the other functions of the package.
func repeated(c api.Circuit) api.Circuit {
	for {
		next := optimize.Trim(optimize.Share(optimize.Fold(c)))
		if circuit.Same(next, c) {
			return c
		}
		c = next
	}
}

// wordy returns a random circuit in which many pairs of wires have the same values, as only several rounds show.
func wordy(rng *rand.Rand) api.Circuit {
	c := made(3, list(and(0, 1), and(1, 0)))
	add := func(g api.Gate) int {
		c.Gates = append(c.Gates, g)
		return 2 + len(c.Gates)
	}
	same := [][2]int{{3, 4}}
	for range 5 + rng.Intn(20) {
		// Newer pairs are taken more often.
		p := same[len(same)-1-rng.Intn(min(len(same), 3))]
		wire := rng.Intn(3 + len(c.Gates))
		switch rng.Intn(5) {
		case 0:
			same = append(same, [2]int{wire, add(or(add(xor(p[0], p[1])), wire))})
		case 1:
			same = append(same, [2]int{p[0], add(and(p[1], p[0]))})
		case 2:
			op := pairs[rng.Intn(3)]
			same = append(same, [2]int{add(op(p[0], wire)), add(op(wire, p[1]))})
		case 3:
			same = append(same, [2]int{add(not(p[1])), add(not(p[0]))})
		case 4:
			same = append(same, [2]int{wire, add(and(wire, add(or(p[0], add(not(p[1]))))))})
		}
	}
	for range 1 + rng.Intn(5) {
		c.Outs = append(c.Outs, 2+len(c.Gates)-rng.Intn(10))
	}
	return c
}

// P19.4: random circuits, which need some rounds.
func TestAllRandom(t *testing.T) {
	counts := make([]int, 20)
	check := func(_ *rand.Rand, c api.Circuit) {
		got := checkModel(t, all, c)
		if want := repeated(c); !circuit.Same(got, want) {
			t.Errorf("All leads from %s to %s, and the other functions lead to %s", show(c), show(got), show(want))
		}
		_, rounds := allModel(c)
		counts[rounds]++
	}
	rng := rand.New(rand.NewSource(1970))
	for range 4000 {
		check(rng, wordy(rng))
	}
	randomCircuits(197, 4000, check)
	if slices.Min(counts[:5]) < 100 || counts[5] < 10 {
		t.Error("the numbers of circuits with 0, 1, 2 rounds and so on are", counts)
	}
}

// manyCircuits calls a function with random circuits of several sizes.
func manyCircuits(seed int64, visit func(rng *rand.Rand, c api.Circuit)) {
	randomCircuits(seed, 3000, visit)
	rng := rand.New(rand.NewSource(seed + 1000))
	for range 1000 {
		visit(rng, wordy(rng))
	}
	for range 300 {
		visit(rng, randomCircuit(rng, 1+rng.Intn(40), rng.Intn(400), rng.Intn(100)))
	}
	for n := range 10 {
		visit(rng, layers(n))
	}
}

// P19.6: no function changes the result of All.
func TestAllIsFixed(t *testing.T) {
	manyCircuits(198, func(_ *rand.Rand, c api.Circuit) {
		got := optimize.All(c)
		for _, f := range calls {
			if again := checkShape(t, f, got); !circuit.Same(again, got) {
				t.Errorf("All leads from %s to %s, and %s of it to %s", show(c), show(got), f.name, show(again))
			}
		}
	})
}

// faults returns what the form of an optimized circuit does not permit, of which there is nothing.
func faults(c api.Circuit) []string {
	var l []string
	ops, seen := map[int]api.Gate{}, map[api.Gate]bool{}
	opposes := func(a, b int) bool { g, is := ops[a]; return is && g == not(b) }
	for i, g := range c.Gates {
		operands := []int{g.A, g.B}[:arity(g.Op)]
		for _, wire := range operands {
			before, is := ops[wire]
			if is && before.Op < api.GateNot {
				l = append(l, fmt.Sprintf("the gate %d has a constant as operand", i))
			}
			if is && before.Op == api.GateNot && g.Op == api.GateNot {
				l = append(l, fmt.Sprintf("the gate %d is the opposite of an opposite", i))
			}
		}
		if len(operands) == 2 && (g.A == g.B || opposes(g.A, g.B) || opposes(g.B, g.A)) {
			l = append(l, fmt.Sprintf("the gate %d has equal operands or opposites", i))
		}
		if seen[g] || len(operands) == 2 && seen[api.Gate{Op: g.Op, A: g.B, B: g.A}] {
			l = append(l, fmt.Sprintf("the gate %d is equal to an earlier one", i))
		}
		ops[c.Inputs+i], seen[g] = g, true
	}
	for i, n := range uses(c) {
		if n == 0 {
			l = append(l, fmt.Sprintf("the gate %d is not needed", i))
		}
	}
	return l
}

// uses returns for each gate how many outputs and later gates have its wire. In a circuit in which each gate has a use, each is needed, as the
// last one is that of an output.
func uses(c api.Circuit) []int {
	l := make([]int, len(c.Gates))
	eachPlace(c, 0, func(wire *int) {
		if *wire >= c.Inputs {
			l[*wire-c.Inputs]++
		}
	})
	return l
}

// P19.7: the form of the results of All.
func TestAllForm(t *testing.T) {
	gates, faulty := 0, 0
	manyCircuits(199, func(_ *rand.Rand, c api.Circuit) {
		got := optimize.All(c)
		if l := faults(got); len(l) > 0 {
			t.Errorf("All leads from %s to %s: %v", show(c), show(got), l)
		}
		gates += len(got.Gates)
		if len(faults(c)) > 0 {
			faulty++
		}
	})
	if gates < 5000 || faulty < 1000 {
		t.Errorf("of %d circuits that have to be optimized there are %d gates", faulty, gates)
	}
}
