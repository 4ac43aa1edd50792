package optimize_test

import (
	"math/rand"
	"slices"
	"testing"

	"cellular/api"
	"cellular/circuit"
)

// checkRefused checks that all functions return the zero circuit for a circuit that is not valid, and leave it as it is.
func checkRefused(t *testing.T, c api.Circuit) {
	t.Helper()
	if circuit.Right(c) {
		t.Errorf("the circuit %s is valid", show(c))
	}
	for _, f := range calls {
		given := laidOut(c)
		if got := f.own(given); got.Inputs != 0 || len(got.Gates) > 0 || len(got.Outs) > 0 {
			t.Errorf("%s leads from %s, which is not valid, to %s", f.name, show(c), show(got))
		}
		if !circuit.Same(given, c) || !circuit.Same(whole(given), whole(laidOut(c))) {
			t.Errorf("%s changed the circuit %s", f.name, show(c))
		}
	}
}

// checkAccepted checks a valid circuit that has to be told from those that are not valid.
func checkAccepted(t *testing.T, c api.Circuit) {
	t.Helper()
	for _, f := range calls {
		checkModel(t, f, c)
	}
}

// check checks a circuit that is expected to be valid, or not to be.
func check(t *testing.T, c api.Circuit, isRight bool) {
	t.Helper()
	if isRight {
		checkAccepted(t, c)
	} else {
		checkRefused(t, c)
	}
}

// All promises: the numbers of inputs.
func TestNumbersOfInputs(t *testing.T) {
	for _, n := range ints {
		isRight := n >= 0 && n <= 1000
		check(t, made(n, nil), isRight)
		check(t, made(n, list(zero, one)), isRight)
		check(t, made(n, list(one), 0), isRight)
		check(t, made(n, list(xor(0, 0)), 0), isRight && n > 0)
	}
}

// All promises: the numbers of gates and of outputs.
func TestNumbersOfGatesAndOuts(t *testing.T) {
	for _, n := range []int{20001, 20002, 40000, 65536, 65537} {
		checkRefused(t, made(0, slices.Repeat(list(zero), n)))
		checkRefused(t, made(1, slices.Repeat(list(not(0)), n), 0, 1, n))
	}
	for _, n := range []int{0, 1, 2, 999, 1000, 1001, 1002, 20000, 65536, 65537} {
		check(t, made(1, nil, make([]int, n)...), n <= 1000)
		check(t, made(1, list(not(0), not(1)), make([]int, n)...), n <= 1000)
		check(t, made(0, list(one), make([]int, n)...), n <= 1000)
		check(t, made(0, nil, make([]int, n)...), n == 0)
	}
}

// All promises: operations that do not exist, and operands that an operation does not have.
func TestOperations(t *testing.T) {
	for _, n := range ints {
		check(t, made(1, list(api.Gate{Op: n})), n >= 0 && n <= 5)
		check(t, made(1, list(api.Gate{Op: n}), 0), n >= 0 && n <= 5)
		check(t, made(2, list(and(0, 1), api.Gate{Op: n}, or(0, 1)), 4), n >= 0 && n <= 5)
		for _, g := range list(zero, one) {
			for _, place := range []*int{&g.A, &g.B} {
				*place = n
				check(t, made(2, list(and(0, 1), g), 3), n == 0)
				check(t, made(2, list(and(0, 1), g), 0), n == 0)
				*place = 0
			}
		}
		g := not(1)
		g.B = n
		check(t, made(2, list(and(0, 1), g), 3), n == 0)
		check(t, made(2, list(g, and(0, 1)), 3), n == 0)
	}
}

// All promises: operands and outputs that are not wires, or not those of inputs and earlier gates.
func TestWires(t *testing.T) {
	for _, n := range ints {
		for _, g := range list(not(n), and(n, 0), and(0, n), or(n, 1), or(1, n), xor(n, 2), xor(2, n), and(n, n), or(n, n), xor(n, n)) {
			check(t, made(2, list(or(0, 1), g, and(0, 1)), 4), n >= 0 && n <= 2)
			check(t, made(2, list(or(0, 1), g)), n >= 0 && n <= 2)
			check(t, made(3, list(g, one, zero), 2), n >= 0 && n <= 2)
		}
		for place := range 3 {
			outs := []int{0, 4, 3}
			outs[place] = n
			check(t, made(2, list(or(0, 1), not(2), and(0, 1)), outs...), n >= 0 && n <= 4)
		}
		check(t, made(0, nil, n), false)
		check(t, made(3, nil, n), n >= 0 && n <= 2)
	}
	// The gate's own wire, without inputs as well, and gates that need each other.
	for _, c := range []api.Circuit{
		made(1, list(not(1)), 1), made(0, list(not(0)), 0), made(0, list(and(0, 0))), made(1, list(and(0, 2), or(0, 1)), 0),
		made(1, list(not(2), not(1)), 2),
	} {
		checkRefused(t, c)
	}
}

// All promises: random circuits that differ from valid ones in one place.
func TestBroken(t *testing.T) {
	counts := map[bool]int{}
	randomCircuits(1913, 4000, func(rng *rand.Rand, c api.Circuit) {
		c = laidOut(c)
		n := rng.Intn(c.Inputs+len(c.Gates)+4) - 2
		if rng.Intn(3) == 0 {
			n = ints[rng.Intn(len(ints))]
		}
		switch kind := rng.Intn(4); {
		case kind == 0:
			c.Inputs = n
		case kind == 1 && len(c.Outs) > 0:
			c.Outs[rng.Intn(len(c.Outs))] = n
		case len(c.Gates) > 0:
			g := &c.Gates[rng.Intn(len(c.Gates))]
			*[]*int{&g.Op, &g.A, &g.B}[rng.Intn(3)] = n
		}
		counts[circuit.Right(c)]++
		check(t, c, circuit.Right(c))
	})
	if counts[true] < 500 || counts[false] < 500 {
		t.Error("the numbers of valid circuits and of others are", counts)
	}
}
