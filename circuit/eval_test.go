package circuit_test

import (
	"fmt"
	"math/rand"
	"slices"
	"testing"

	"cellular/api"
	"cellular/circuit"
)

// checkEval compares Eval with the expected values, and checks that they are new memory.
func checkEval(t *testing.T, c api.Circuit, in, want []bool) {
	t.Helper()
	for _, behind := range []bool{false, true} {
		unchanged(t, c, func(c api.Circuit) {
			listUnchanged(t, in, behind, func(in []bool) {
				got, e := circuit.Eval(c, in)
				if e != api.OK || !slices.Equal(got, want) {
					t.Errorf("Eval of the circuit %s for %s is %v with the error %d, not %v", show(c), begin(fmt.Sprint(in)), got, e, want)
				}
				fill(got, behind)
				if again, _ := circuit.Eval(c, in); !slices.Equal(again, want) {
					t.Errorf("a change of the result changes the next one to %v", again)
				}
			})
		})
	}
}

// checkEvalError checks that Eval returns its error and nothing else.
func checkEvalError(t *testing.T, c api.Circuit, in []bool) {
	t.Helper()
	unchanged(t, c, func(c api.Circuit) {
		listUnchanged(t, in, true, func(in []bool) {
			if got, e := circuit.Eval(c, in); e != api.ErrArg || len(got) > 0 {
				t.Errorf("Eval of the circuit %s for %d values is %v with the error %d", show(c), len(in), got, e)
			}
		})
	})
}

// checkBoth compares Eval and Words with the expected values. The word of an input has a bit in each place if it is true.
func checkBoth(t *testing.T, c api.Circuit, in, want []bool) {
	t.Helper()
	checkEval(t, c, in, want)
	checkWords(t, c, filled(in), filled(want))
}

// filled returns a word of equal bits for each value.
func filled(l []bool) []uint64 {
	words := make([]uint64, len(l))
	for i, v := range l {
		if v {
			words[i] = 1<<64 - 1
		}
	}
	return words
}

// P17.2, P17.3: each operation for all values of its operands, in each order of the wires.
func TestOperations(t *testing.T) {
	values := []bool{false, true}
	checkBoth(t, made(0, []api.Gate{zero}, 0), nil, []bool{false})
	checkBoth(t, made(0, []api.Gate{one}, 0), nil, []bool{true})
	for _, a := range values {
		checkBoth(t, made(1, []api.Gate{zero}, 1), []bool{a}, []bool{false})
		checkBoth(t, made(1, []api.Gate{one}, 1), []bool{a}, []bool{true})
		checkBoth(t, made(1, []api.Gate{not(0)}, 1), []bool{a}, []bool{!a})
		for _, b := range values {
			in := []bool{a, b}
			checkBoth(t, made(2, []api.Gate{zero}, 2), in, []bool{false})
			checkBoth(t, made(2, []api.Gate{one}, 2), in, []bool{true})
			checkBoth(t, made(2, []api.Gate{not(0)}, 2), in, []bool{!a})
			checkBoth(t, made(2, []api.Gate{not(1)}, 2), in, []bool{!b})
			for _, w := range []int{0, 1} {
				checkBoth(t, made(2, []api.Gate{and(w, 1-w)}, 2), in, []bool{a && b})
				checkBoth(t, made(2, []api.Gate{or(w, 1-w)}, 2), in, []bool{a || b})
				checkBoth(t, made(2, []api.Gate{xor(w, 1-w)}, 2), in, []bool{a != b})
			}
		}
	}
}

// P17.2, P17.3: each operation for operands that are gates with all values, without inputs.
func TestOperationsOnGates(t *testing.T) {
	for a := range 2 {
		// The wire 0 is false and the wire 1 is true, so a wire is its own value.
		checkBoth(t, made(0, []api.Gate{zero, one, not(a)}, 2), nil, []bool{a == 0})
		checkBoth(t, made(0, []api.Gate{zero, one, not(a), not(2), not(3)}, 4, 3, 2), nil, []bool{a == 0, a == 1, a == 0})
		for b := range 2 {
			checkBoth(t, made(0, []api.Gate{zero, one, and(a, b)}, 2), nil, []bool{a+b == 2})
			checkBoth(t, made(0, []api.Gate{zero, one, or(a, b)}, 2), nil, []bool{a+b > 0})
			checkBoth(t, made(0, []api.Gate{zero, one, xor(a, b)}, 2), nil, []bool{a+b == 1})
		}
	}
}

// P17.2, P17.3: both operands are the same wire, which is an input or a gate.
func TestSameOperands(t *testing.T) {
	for _, a := range []bool{false, true} {
		in := []bool{a}
		gates := []api.Gate{not(0), and(0, 0), or(0, 0), xor(0, 0), and(1, 1), or(1, 1), xor(1, 1), not(2), not(7)}
		checkBoth(t, made(1, gates, upTo(10)...), in, []bool{a, !a, a, a, false, !a, !a, false, !a, true})
	}
}

// P17.2, P17.3: gates without operands are the same wherever they stand, whatever the wire 0 is.
func TestConstants(t *testing.T) {
	for _, a := range []bool{false, true} {
		checkBoth(t, made(1, []api.Gate{zero, one, zero, one, and(2, 4), or(1, 3)}, 1, 2, 3, 4, 5, 6), []bool{a},
			[]bool{false, true, false, true, true, false})
	}
	checkBoth(t, made(0, []api.Gate{one, zero, one, zero}, 0, 1, 2, 3), nil, []bool{true, false, true, false})
	checkBoth(t, made(0, []api.Gate{zero, one, zero, one}, 3, 2, 1, 0), nil, []bool{true, false, true, false})
}

// P17.2, P17.3: outputs that are inputs, are named twice, or stand in any order.
func TestOuts(t *testing.T) {
	for _, in := range everyInput(3) {
		a, b, c := in[0], in[1], in[2]
		checkBoth(t, same(3), in, in)
		checkBoth(t, made(3, nil, 2, 1, 0), in, []bool{c, b, a})
		checkBoth(t, made(3, nil, 1, 1, 1, 1, 1), in, []bool{b, b, b, b, b})
		checkBoth(t, made(3, nil, 2), in, []bool{c})
		gates := []api.Gate{and(0, 1), or(1, 2), not(3)}
		checkBoth(t, made(3, gates, 5, 0, 4, 0, 5, 3, 2, 1), in, []bool{!(a && b), a, b || c, a, !(a && b), a && b, c, b})
		checkBoth(t, made(3, gates, 3, 3), in, []bool{a && b, a && b})
		checkBoth(t, made(3, gates, 0, 1), in, []bool{a, b})
		checkBoth(t, made(3, gates, 2, 3), in, []bool{c, a && b})
	}
}

// P17.2, P17.3: circuits without inputs, gates or outputs, and lists that are nil.
func TestEmptyLists(t *testing.T) {
	for _, in := range [][]bool{nil, {}} {
		for _, c := range []api.Circuit{{}, {Gates: []api.Gate{}, Outs: []int{}}, made(0, []api.Gate{one}), made(0, []api.Gate{one, not(0)})} {
			checkEval(t, c, in, nil)
		}
		checkEval(t, made(0, []api.Gate{one, not(0)}, 1, 0), in, []bool{false, true})
	}
	for _, in := range [][]uint64{nil, {}} {
		for _, c := range []api.Circuit{{}, {Gates: []api.Gate{}, Outs: []int{}}, made(0, []api.Gate{one}), made(0, []api.Gate{one, not(0)})} {
			checkWords(t, c, in, nil)
		}
		checkWords(t, made(0, []api.Gate{one, not(0)}, 1, 0), in, []uint64{0, 1<<64 - 1})
	}
	for _, in := range everyInput(2) {
		checkBoth(t, made(2, nil), in, nil)
		checkBoth(t, made(2, []api.Gate{xor(0, 1)}), in, nil)
		checkBoth(t, made(2, nil, 1), in, in[1:])
	}
}

// P17.2: the half adder of the chapter, and a full adder of numbers with eight digits.
func TestEvalAdders(t *testing.T) {
	half := made(2, []api.Gate{xor(0, 1), and(0, 1)}, 2, 3)
	for _, in := range everyInput(2) {
		checkEval(t, half, in, []bool{in[0] != in[1], in[0] && in[1]})
	}
	c := adder(8)
	for a := range 256 {
		for b := range 256 {
			got, e := circuit.Eval(c, append(digits(a, 8), digits(b, 8)...))
			if e != api.OK || !slices.Equal(got, digits(a+b, 9)) {
				t.Fatalf("Eval of the adder for %d and %d is %v with the error %d", a, b, got, e)
			}
		}
	}
}

// adder returns a circuit that adds two numbers with n digits, whose inputs are their digits.
func adder(n int) api.Circuit {
	c := api.Circuit{Inputs: 2 * n}
	add := func(g api.Gate) int {
		c.Gates = append(c.Gates, g)
		return c.Inputs + len(c.Gates) - 1
	}
	carry := add(zero)
	for i := range n {
		either := add(xor(i, n+i))
		both := add(and(i, n+i))
		c.Outs = append(c.Outs, add(xor(either, carry)))
		carry = add(or(both, add(and(either, carry))))
	}
	c.Outs = append(c.Outs, carry)
	return c
}

// digits returns the last n binary digits of a number, the lowest first.
func digits(number, n int) []bool {
	l := make([]bool, n)
	for i := range l {
		l[i] = number>>i%2 == 1
	}
	return l
}

// P17.2: all circuits with up to three gates, all wires of which are outputs, for all values.
func TestEvalSmall(t *testing.T) {
	for inputs := range 3 {
		for gates := range 4 {
			for _, c := range everyCircuit(inputs, gates) {
				for _, in := range everyInput(inputs) {
					if got, e := circuit.Eval(c, in); e != api.OK || !slices.Equal(got, evalModel(c, in)) {
						t.Fatalf("Eval of the circuit %s for %v is %v with the error %d, not %v", show(c), in, got, e, evalModel(c, in))
					}
				}
			}
		}
	}
}

// P17.2: random circuits.
func TestEvalRandom(t *testing.T) {
	rng := rand.New(rand.NewSource(173))
	for range 1000 {
		c := randomCircuit(rng, rng.Intn(10), rng.Intn(100), rng.Intn(20))
		for range 5 {
			in := randomInput(rng, c.Inputs)
			checkEval(t, c, in, evalModel(c, in))
		}
	}
}

// P17.2: circuits with the greatest numbers of inputs, gates and outputs.
func TestEvalAtLimits(t *testing.T) {
	rng := rand.New(rand.NewSource(174))
	for range 3 {
		c, in := largest(rng), randomInput(rng, 1000)
		checkEval(t, c, in, evalModel(c, in))
	}
	in := randomInput(rng, 1000)
	checkEval(t, same(1000), in, in)
	// The number of inputs that are true, modulo two.
	c := made(1000, []api.Gate{zero}, 1000+1000)
	for i := range 1000 {
		c.Gates = append(c.Gates, xor(i, 1000+i))
	}
	for range 20 {
		in := randomInput(rng, 1000)
		odd := false
		for _, v := range in {
			odd = odd != v
		}
		checkEval(t, c, in, []bool{odd})
	}
	for _, a := range []bool{false, true} {
		checkEval(t, made(1, chain(api.GateNot, 1, 20000), 20000, 19999), []bool{a}, []bool{a, !a})
	}
}

// wrong returns circuits that are not valid, each for one reason, with the number of inputs 0, 1 or 2.
func wrong() []api.Circuit {
	return []api.Circuit{
		made(0, nil, 0), made(0, nil, -1), made(0, []api.Gate{not(0)}), made(0, []api.Gate{{Op: 6}}), made(0, []api.Gate{{Op: -1}}),
		made(0, []api.Gate{one}, 1), made(0, []api.Gate{{Op: api.GateOne, B: 1}}), made(0, slices.Repeat([]api.Gate{one}, 20001)),
		made(1, nil, 1), made(1, []api.Gate{not(1)}, 0), made(1, []api.Gate{not(-1)}, 0), made(1, []api.Gate{and(0, 1)}, 0),
		made(1, []api.Gate{or(1, 0)}, 0), made(1, nil, make([]int, 1001)...), made(1, slices.Repeat([]api.Gate{not(0)}, 20001), 0),
		made(2, []api.Gate{{Op: api.GateNot, B: 1}}, 0, 1), made(2, []api.Gate{{Op: api.GateZero, A: 1}}, 0, 1),
		made(2, []api.Gate{xor(0, 2)}, 2), made(2, []api.Gate{xor(3, 0), one}, 2), made(2, []api.Gate{xor(0, 1)}, 3), made(2, nil, 0, -1),
	}
}

// P17.2, P17.3: both conditions of the error, each alone and both together.
func TestEvalErrors(t *testing.T) {
	lengths := []int{0, 1, 2, 3, 4, 64, 256, 257, 1000, 1001, 1<<16 + 2}
	for _, c := range wrong() {
		if rightModel(c) {
			t.Errorf("the circuit %s is valid", show(c))
		}
		// One of the lengths is that of the inputs.
		for _, n := range lengths {
			checkEvalError(t, c, make([]bool, n))
			checkWordsError(t, c, make([]uint64, n))
		}
		checkEvalError(t, c, nil)
		checkWordsError(t, c, nil)
	}
	for _, inputs := range []int{0, 1, 2, 3, 1000} {
		for _, c := range []api.Circuit{made(inputs, nil), same(inputs), made(inputs, []api.Gate{one}, inputs)} {
			for _, n := range append(lengths, inputs-1, inputs+1, 2*inputs) {
				if n >= 0 && n != inputs {
					checkEvalError(t, c, make([]bool, n))
					checkWordsError(t, c, make([]uint64, n))
				}
			}
			if inputs > 0 {
				checkEvalError(t, c, nil)
				checkWordsError(t, c, nil)
			}
			checkBoth(t, c, make([]bool, inputs), evalModel(c, make([]bool, inputs)))
		}
	}
	for _, n := range ints {
		if n < 0 || n > 1000 {
			for _, length := range lengths {
				checkEvalError(t, made(n, nil), make([]bool, length))
				checkWordsError(t, made(n, nil), make([]uint64, length))
			}
		}
	}
}
