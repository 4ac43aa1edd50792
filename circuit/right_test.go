package circuit_test

import (
	"math"
	"math/rand"
	"slices"
	"testing"

	"cellular/api"
	"cellular/circuit"
)

// checkRight compares Right with the expected result. If the circuit is not valid, no other function may accept it.
func checkRight(t *testing.T, c api.Circuit, want bool) {
	t.Helper()
	if rightModel(c) != want {
		t.Errorf("the model tells %v of the circuit %s", !want, show(c))
	}
	unchanged(t, c, func(c api.Circuit) {
		if got := circuit.Right(c); got != want {
			t.Errorf("Right of the circuit %s is %v", show(c), got)
		}
	})
	if !want {
		checkRefused(t, c)
	}
}

// checkRefused checks that no function but Same accepts a circuit, though everything else is as it should be.
func checkRefused(t *testing.T, c api.Circuit) {
	t.Helper()
	inputs := max(0, min(c.Inputs, 1001))
	checkEvalError(t, c, make([]bool, inputs))
	checkWordsError(t, c, make([]uint64, inputs))
	checkDepth(t, c, 0)
	checkJoin(t, same(min(inputs, 1000)), c, api.Circuit{}, api.ErrArg)
	checkJoin(t, c, same(min(len(c.Outs), 1000)), api.Circuit{}, api.ErrArg)
}

// P17.1: the numbers of inputs, with lists that are nil, empty or not.
func TestRightInputs(t *testing.T) {
	for _, n := range ints {
		want := n >= 0 && n <= 1000
		checkRight(t, made(n, nil), want)
		checkRight(t, api.Circuit{Inputs: n, Gates: []api.Gate{}, Outs: []int{}}, want)
		checkRight(t, made(n, []api.Gate{zero, one}), want)
		checkRight(t, made(n, nil, 0), want && n > 0)
		checkRight(t, made(n, []api.Gate{one}, 0), want)
		checkRight(t, made(n, []api.Gate{xor(0, 0)}, 0), want && n > 0)
		if want {
			checkRight(t, same(n), true)
			checkRight(t, made(n, []api.Gate{one, or(n, n)}, n+1), true)
		}
	}
	for n := range 1003 {
		checkRight(t, made(n, []api.Gate{one}, n), n <= 1000)
	}
}

// P17.1: the numbers of gates, which are needed or not.
func TestRightNumbersOfGates(t *testing.T) {
	for _, n := range []int{0, 1, 2, 255, 256, 257, 999, 1000, 1001, 19998, 19999, 20000, 20001, 20002, 40000, 65536, 65537} {
		want := n <= 20000
		checkRight(t, made(0, slices.Repeat([]api.Gate{zero}, n)), want)
		checkRight(t, made(1, slices.Repeat([]api.Gate{one}, n), n), want)
		checkRight(t, made(1000, slices.Repeat([]api.Gate{and(999, 0)}, n), 999), want)
		for op := api.GateNot; op <= api.GateXor; op++ {
			checkRight(t, made(1, chain(op, 1, n), n), want)
		}
	}
}

// P17.1: the numbers of outputs, which are equal or not.
func TestRightNumbersOfOuts(t *testing.T) {
	for _, n := range []int{0, 1, 2, 255, 256, 257, 998, 999, 1000, 1001, 1002, 2000, 20000, 65536, 65537} {
		want := n <= 1000
		checkRight(t, made(1, nil, make([]int, n)...), want)
		checkRight(t, made(1000, nil, make([]int, n)...), want)
		checkRight(t, made(0, []api.Gate{one}, make([]int, n)...), want)
		checkRight(t, made(0, slices.Repeat([]api.Gate{one}, 20000), upTo(n)...), want)
		// Without a wire there is no output.
		checkRight(t, made(0, nil, make([]int, n)...), n == 0)
	}
}

// P17.1: the operations, in circuits in which any number of operands fits.
func TestRightOperations(t *testing.T) {
	for _, op := range ints {
		want := op >= 0 && op <= 5
		g := api.Gate{Op: op}
		checkRight(t, made(1, []api.Gate{g}), want)
		checkRight(t, made(1, []api.Gate{g}, 0), want)
		checkRight(t, made(1, []api.Gate{g}, 1), want)
		checkRight(t, made(0, []api.Gate{g}), op == 0 || op == 1)
		checkRight(t, made(0, []api.Gate{zero, g}), want)
		checkRight(t, made(2, []api.Gate{g, and(0, 1), or(0, 1)}, 3), want)
		checkRight(t, made(2, []api.Gate{and(0, 1), g, or(2, 3)}, 4), want)
		checkRight(t, made(2, []api.Gate{and(0, 1), or(0, 1), g}, 3), want)
	}
	large := made(1, slices.Repeat([]api.Gate{one}, 20000), 1)
	for op := -1; op <= 6; op++ {
		large.Gates[19999] = api.Gate{Op: op}
		checkRight(t, large, op >= 0 && op <= 5)
	}
}

// P17.1: the numbers of the operations are those of package api.
func TestRightNumbersOfOperations(t *testing.T) {
	for i, op := range []int{api.GateZero, api.GateOne, api.GateNot, api.GateAnd, api.GateOr, api.GateXor} {
		if i != op {
			t.Errorf("the operation %d has the number %d", i, op)
		}
		// A number of operands tells which ones may be other wires than 0.
		checkRight(t, made(2, []api.Gate{{Op: op, A: 1}}), i >= 2)
		checkRight(t, made(2, []api.Gate{{Op: op, B: 1}}), i >= 3)
		checkRight(t, made(2, []api.Gate{{Op: op, A: 1, B: 1}}), i >= 3)
	}
}

// around returns numbers near a number of wires, and those at the limits.
func around(wires int) []int {
	return append([]int{-1, 0, wires - 2, wires - 1, wires, wires + 1, wires + 2}, ints...)
}

// P17.1: each operand of each operation, of the first gate, of one in between and of the last one.
func TestRightOperands(t *testing.T) {
	for _, inputs := range []int{0, 1, 2, 3, 1000} {
		for _, before := range []int{0, 1, 2, 5} {
			for _, behind := range []int{0, 1, 3} {
				wires := inputs + before
				if wires == 0 {
					continue
				}
				for _, n := range around(wires) {
					want := n >= 0 && n < wires
					for op := api.GateNot; op <= api.GateXor; op++ {
						for _, g := range []api.Gate{{Op: op, A: n}, {Op: op, B: n}, {Op: op, A: wires - 1, B: n}, {Op: op, A: n, B: n}} {
							gates := slices.Concat(slices.Repeat([]api.Gate{zero}, before), []api.Gate{g}, slices.Repeat([]api.Gate{one}, behind))
							checkRight(t, made(inputs, gates), want && (op > api.GateNot || g.B == 0))
						}
					}
				}
			}
		}
	}
}

// P17.1: the operands of the first gate, if there are no inputs.
func TestRightFirstGate(t *testing.T) {
	for _, n := range ints {
		for op := range 7 {
			for _, g := range []api.Gate{{Op: op, A: n}, {Op: op, B: n}, {Op: op, A: n, B: n}} {
				want := n == 0 && op < api.GateNot
				checkRight(t, made(0, []api.Gate{g}), want)
				checkRight(t, made(0, []api.Gate{g, one, zero}), want)
				checkRight(t, made(0, []api.Gate{g, one, zero}, 1), want)
			}
		}
	}
}

// P17.1: operands that an operation does not have, at each place of a circuit, though they are wires.
func TestRightOperandsItHasNot(t *testing.T) {
	gates := []api.Gate{one, zero, not(1), and(0, 3), not(4), zero, or(3, 4), one, xor(8, 6), not(9)}
	checkRight(t, made(3, gates, 12), true)
	for i, old := range gates {
		for _, n := range ints {
			for _, outs := range [][]int{nil, {0}, {i + 3}} {
				other := slices.Clone(gates)
				if arity(old.Op) == 0 {
					other[i].A = n
					checkRight(t, made(3, other, outs...), n == 0)
				}
				if arity(old.Op) < 2 {
					other[i] = old
					other[i].B = n
					checkRight(t, made(3, other, outs...), n == 0)
				}
			}
		}
	}
}

// P17.1: gates whose operands are their own wires or later ones.
func TestRightOrder(t *testing.T) {
	// The example of the chapter.
	checkRight(t, made(1, []api.Gate{not(1)}, 1), false)
	for op := api.GateNot; op <= api.GateXor; op++ {
		for inputs := 1; inputs < 4; inputs++ {
			for i := range 5 {
				for operand := range inputs + 5 {
					gates := slices.Repeat([]api.Gate{one}, 5)
					gates[i] = api.Gate{Op: op, A: operand}
					checkRight(t, made(inputs, gates, 0), operand < inputs+i)
					if op != api.GateNot {
						gates[i] = api.Gate{Op: op, B: operand}
						checkRight(t, made(inputs, gates, 0), operand < inputs+i)
					}
				}
			}
		}
	}
	// Two gates that need each other.
	checkRight(t, made(1, []api.Gate{and(0, 2), or(0, 1)}, 2), false)
	checkRight(t, made(1, []api.Gate{not(2), not(1)}, 0), false)
	checkRight(t, made(1, []api.Gate{not(0), not(1)}, 0), true)
}

// P17.1: the outputs, at each place.
func TestRightOuts(t *testing.T) {
	for _, inputs := range []int{0, 1, 2, 1000} {
		for _, gates := range []int{0, 1, 2, 5} {
			wires := inputs + gates
			if wires == 0 {
				continue
			}
			list := slices.Repeat([]api.Gate{one}, gates)
			for _, n := range around(wires) {
				want := n >= 0 && n < wires
				checkRight(t, made(inputs, list, n), want)
				for place := range 4 {
					outs := []int{0, wires - 1, 0, wires - 1}
					outs[place] = n
					checkRight(t, made(inputs, list, outs...), want)
				}
				outs := make([]int, 1000)
				outs[999] = n
				checkRight(t, made(inputs, list, outs...), want)
			}
		}
	}
	for _, n := range ints {
		checkRight(t, made(0, nil, n), false)
	}
}

// P17.1: the outputs of circuits with the greatest number of gates, or almost.
func TestRightOutsOfLargeCircuits(t *testing.T) {
	for _, inputs := range []int{0, 1, 1000} {
		for _, gates := range []int{19999, 20000} {
			wires := inputs + gates
			list := slices.Repeat([]api.Gate{one}, gates)
			for _, n := range []int{math.MinInt, -1, 0, wires - 1, wires, wires + 1, 65536, 1 << 32, math.MaxInt} {
				checkRight(t, made(inputs, list, n), n >= 0 && n < wires)
			}
		}
	}
}

// P17.1: circuits at all limits at once, and one step beyond each of them.
func TestRightAtLimits(t *testing.T) {
	rng := rand.New(rand.NewSource(171))
	c := largest(rng)
	checkRight(t, c, true)
	change := func(how func(c *api.Circuit), want bool) {
		t.Helper()
		other := laidOut(c)
		how(&other)
		checkRight(t, other, want)
	}
	change(func(c *api.Circuit) { c.Inputs++ }, false)
	change(func(c *api.Circuit) { c.Gates = append(c.Gates, one) }, false)
	change(func(c *api.Circuit) { c.Gates = append(c.Gates, xor(20999, 20999)) }, false)
	change(func(c *api.Circuit) { c.Outs = append(c.Outs, 0) }, false)
	change(func(c *api.Circuit) { c.Outs[999] = 21000 }, false)
	change(func(c *api.Circuit) { c.Outs[0] = -1 }, false)
	change(func(c *api.Circuit) { c.Gates[19999] = xor(20998, 20998) }, true)
	change(func(c *api.Circuit) { c.Gates[19999] = xor(20998, 20999) }, false)
	change(func(c *api.Circuit) { c.Gates[19999] = xor(20999, 20998) }, false)
	change(func(c *api.Circuit) { c.Gates[19999] = not(20998) }, true)
	change(func(c *api.Circuit) { c.Gates[19999] = not(20999) }, false)
	change(func(c *api.Circuit) { c.Gates[19999].Op = 6 }, false)
	change(func(c *api.Circuit) { c.Gates[0] = or(999, 0) }, true)
	change(func(c *api.Circuit) { c.Gates[0] = or(1000, 0) }, false)
	change(func(c *api.Circuit) { c.Gates[0] = or(0, 1000) }, false)
	change(func(c *api.Circuit) { c.Gates[0] = not(1000) }, false)
	change(func(c *api.Circuit) { c.Gates[0] = api.Gate{Op: -1} }, false)
	change(func(c *api.Circuit) { c.Gates[10000] = api.Gate{A: 1} }, false)
}

// P17.1: gates and outputs that are equal or not needed.
func TestRightNotOptimized(t *testing.T) {
	for _, c := range []api.Circuit{
		{}, made(0, []api.Gate{zero}), made(0, []api.Gate{zero, zero, one, one}, 0), made(5, nil), made(5, []api.Gate{and(4, 4)}, 2),
		made(1, []api.Gate{not(0), not(0), not(1), not(2)}, 1, 2, 1, 2), made(2, []api.Gate{zero, and(2, 2), xor(3, 3), or(4, 0)}, 0, 0, 0),
	} {
		checkRight(t, c, true)
	}
}

// P17.1: all circuits with at most three inputs and one gate, and an output or none, with numbers that are just too small or too great.
func TestRightSmall(t *testing.T) {
	for inputs := -1; inputs <= 3; inputs++ {
		for op := -1; op <= 6; op++ {
			for a := -1; a <= 4; a++ {
				for b := -1; b <= 4; b++ {
					c := made(inputs, []api.Gate{{Op: op, A: a, B: b}})
					checkRight(t, c, rightModel(c))
					for wire := -1; wire <= 5; wire++ {
						c := made(inputs, []api.Gate{{Op: op, A: a, B: b}}, wire)
						checkRight(t, c, rightModel(c))
					}
				}
			}
		}
	}
}

// P17.1: random circuits, and others that differ from them in one place.
func TestRightRandom(t *testing.T) {
	rng := rand.New(rand.NewSource(172))
	counts := map[bool]int{}
	for range 3000 {
		c := randomCircuit(rng, rng.Intn(5), rng.Intn(30), rng.Intn(5))
		checkRight(t, c, true)
		for range 3 {
			other := broken(rng, c)
			counts[rightModel(other)]++
			checkRight(t, other, rightModel(other))
		}
	}
	if counts[true] < 500 || counts[false] < 500 {
		t.Error("the numbers of circuits are", counts)
	}
}
