package circuit_test

import (
	"math/rand"
	"slices"
	"testing"

	"cellular/api"
	"cellular/circuit"
)

// checkJoin compares Join with the expected results. A circuit that is joined is valid.
func checkJoin(t *testing.T, a, b, want api.Circuit, wanted api.Errno) {
	t.Helper()
	if own, e := joinModel(a, b); !sameModel(own, want) || e != wanted {
		t.Errorf("the model joins the circuits %s and %s to %s with the error %d", show(a), show(b), show(own), e)
	}
	unchanged(t, a, func(a api.Circuit) {
		unchanged(t, b, func(b api.Circuit) {
			got, e := circuit.Join(a, b)
			if !sameModel(got, want) || e != wanted {
				t.Errorf("Join(%s, %s) is %s with the error %d, not %s with %d", show(a), show(b), show(got), e, show(want), wanted)
			}
			if e == api.OK && (!circuit.Right(got) || !rightModel(got)) {
				t.Errorf("Join(%s, %s) is %s, which is not valid", show(a), show(b), show(got))
			}
		})
	})
}

// checkJoined compares Join with the model, for circuits that can be joined.
func checkJoined(t *testing.T, a, b api.Circuit) {
	t.Helper()
	want, e := joinModel(a, b)
	if e != api.OK {
		t.Errorf("the circuits %s and %s cannot be joined", show(a), show(b))
	}
	checkJoin(t, a, b, want, e)
}

// P17.5: circuits that are written down.
func TestJoinExamples(t *testing.T) {
	half := made(2, []api.Gate{xor(0, 1), and(0, 1)}, 2, 3)
	for _, x := range []struct{ a, b, want api.Circuit }{
		{api.Circuit{}, api.Circuit{}, api.Circuit{}},
		{made(3, nil), made(0, nil), made(3, nil)},
		{half, half, made(2, []api.Gate{xor(0, 1), and(0, 1), xor(2, 3), and(2, 3)}, 4, 5)},
		{half, made(2, nil, 1, 0, 1), made(2, []api.Gate{xor(0, 1), and(0, 1)}, 3, 2, 3)},
		{made(1, nil, 0, 0), half, made(1, []api.Gate{xor(0, 0), and(0, 0)}, 1, 2)},
		{made(2, nil, 1, 0), half, made(2, []api.Gate{xor(1, 0), and(1, 0)}, 2, 3)},
		// Operands that an operation does not have remain 0, though the input 0 of b becomes another wire.
		{made(3, nil, 2), made(1, []api.Gate{zero, one, not(0)}, 1, 2, 3), made(3, []api.Gate{zero, one, not(2)}, 3, 4, 5)},
		{made(3, []api.Gate{or(1, 2)}, 3), made(1, []api.Gate{not(0), zero, one}, 0), made(3, []api.Gate{or(1, 2), not(3), zero, one}, 3)},
		{made(0, []api.Gate{zero, one}, 1), made(1, []api.Gate{zero, one, not(0)}, 3), made(0, []api.Gate{zero, one, zero, one, not(1)}, 4)},
		{made(5, []api.Gate{one}, 5, 4), made(2, []api.Gate{one, not(1), not(2)}, 4), made(5, []api.Gate{one, one, not(4), not(6)}, 8)},
		// The gates of a remain as they are.
		{made(2, []api.Gate{zero, one, not(1), and(4, 0)}, 5), made(1, nil, 0), made(2, []api.Gate{zero, one, not(1), and(4, 0)}, 5)},
		// Outputs of a that are inputs of it, or are named twice, or not used by b.
		{made(2, []api.Gate{and(0, 1)}, 1, 2), made(2, []api.Gate{or(0, 1)}, 2, 0), made(2, []api.Gate{and(0, 1), or(1, 2)}, 3, 1)},
		{made(2, []api.Gate{and(0, 1)}, 2, 2, 0), made(3, []api.Gate{or(2, 1)}, 3), made(2, []api.Gate{and(0, 1), or(0, 2)}, 3)},
		{made(1, []api.Gate{not(0)}, 0, 0, 1, 1), made(4, []api.Gate{xor(0, 3)}, 4), made(1, []api.Gate{not(0), xor(0, 1)}, 2)},
		// The gates of b have inputs and gates of b as operands; there are fewer wires of a than inputs of b, or more.
		{made(0, []api.Gate{one}, 0, 0, 0), made(3, []api.Gate{and(0, 2), or(3, 1), xor(4, 3), not(5)}, 6, 3),
			made(0, []api.Gate{one, and(0, 0), or(1, 0), xor(2, 1), not(3)}, 4, 1)},
		{made(4, []api.Gate{not(3), not(2), not(1)}, 5), made(1, []api.Gate{and(0, 0), or(1, 0), xor(0, 2), not(3)}, 4, 1, 0),
			made(4, []api.Gate{not(3), not(2), not(1), and(5, 5), or(7, 5), xor(5, 8), not(9)}, 10, 7, 5)},
		// One of them has no inputs, no gates or no outputs.
		{made(0, nil), made(0, []api.Gate{one, not(0)}, 1), made(0, []api.Gate{one, not(0)}, 1)},
		{made(2, nil), made(0, []api.Gate{one, not(0)}, 1), made(2, []api.Gate{one, not(2)}, 3)},
		{made(2, []api.Gate{xor(0, 1)}), made(0, []api.Gate{one, not(0)}, 1, 0), made(2, []api.Gate{xor(0, 1), one, not(3)}, 4, 3)},
		{made(2, []api.Gate{xor(0, 1)}, 2), made(1, []api.Gate{not(0)}), made(2, []api.Gate{xor(0, 1), not(2)})},
		{made(2, nil, 1), made(1, nil, 0, 0), made(2, nil, 1, 1)},
	} {
		checkJoin(t, x.a, x.b, x.want, api.OK)
	}
}

// P17.5: each operation of b with each operand, where all wires change.
func TestJoinOperands(t *testing.T) {
	a := made(4, []api.Gate{and(3, 2), xor(1, 4)}, 5, 3, 1)
	moved := map[int]int{0: 5, 1: 3, 2: 1, 3: 6, 4: 7}
	for x, own := range moved {
		// The wires 3 and 4 of b become the wires 6 and 7 of the result.
		b := made(3, []api.Gate{one, zero, not(x)}, 5, x)
		checkJoin(t, a, b, made(4, append(slices.Clone(a.Gates), one, zero, not(own)), 8, own), api.OK)
		for y, other := range moved {
			for op := api.GateAnd; op <= api.GateXor; op++ {
				b.Gates[2] = api.Gate{Op: op, A: x, B: y}
				want := append(slices.Clone(a.Gates), one, zero, api.Gate{Op: op, A: own, B: other})
				checkJoin(t, a, b, made(4, want, 8, own), api.OK)
			}
		}
	}
}

// P17.5: a circuit whose outputs are its inputs changes nothing.
func TestJoinSame(t *testing.T) {
	rng := rand.New(rand.NewSource(180))
	for range 500 {
		c := randomCircuit(rng, rng.Intn(6), rng.Intn(20), rng.Intn(6))
		checkJoin(t, same(c.Inputs), c, c, api.OK)
		checkJoin(t, c, same(len(c.Outs)), c, api.OK)
	}
	c := largest(rng)
	checkJoin(t, same(1000), c, c, api.OK)
	checkJoin(t, c, same(1000), c, api.OK)
}

// P17.5: random circuits, also three of them in either order.
func TestJoinRandom(t *testing.T) {
	rng := rand.New(rand.NewSource(181))
	for range 1000 {
		a := randomCircuit(rng, 1+rng.Intn(5), rng.Intn(20), rng.Intn(6))
		b := randomCircuit(rng, len(a.Outs), rng.Intn(20), rng.Intn(6))
		c := randomCircuit(rng, len(b.Outs), rng.Intn(20), rng.Intn(6))
		checkJoined(t, a, b)
		checkJoined(t, b, c)
		first, _ := circuit.Join(a, b)
		second, _ := circuit.Join(b, c)
		checkJoined(t, first, c)
		checkJoined(t, a, second)
		left, e := circuit.Join(first, c)
		right, other := circuit.Join(a, second)
		if !sameModel(left, right) || e != api.OK || other != api.OK {
			t.Errorf("three circuits are joined to %s with the error %d, or to %s with %d", show(left), e, show(right), other)
		}
	}
}

// P17.5: circuits that are not valid, of which one, the other or both are.
func TestJoinInvalid(t *testing.T) {
	for _, c := range wrong() {
		outs := min(len(c.Outs), 1000)
		checkJoin(t, c, same(outs), api.Circuit{}, api.ErrArg)
		checkJoin(t, c, made(outs, []api.Gate{one}, outs), api.Circuit{}, api.ErrArg)
		checkJoin(t, same(c.Inputs), c, api.Circuit{}, api.ErrArg)
		checkJoin(t, made(0, []api.Gate{one}, make([]int, c.Inputs)...), c, api.Circuit{}, api.ErrArg)
		// The number of outputs is not that of inputs either.
		checkJoin(t, c, same(outs+1), api.Circuit{}, api.ErrArg)
		checkJoin(t, same(c.Inputs+1), c, api.Circuit{}, api.ErrArg)
		for _, other := range wrong() {
			checkJoin(t, c, other, api.Circuit{}, api.ErrArg)
		}
	}
	for _, n := range ints {
		if n < 0 || n > 1000 {
			checkJoin(t, made(n, nil), same(0), api.Circuit{}, api.ErrArg)
			checkJoin(t, made(n, []api.Gate{one}, n), same(1), api.Circuit{}, api.ErrArg)
			checkJoin(t, same(0), made(n, nil), api.Circuit{}, api.ErrArg)
			checkJoin(t, same(1000), made(n, nil), api.Circuit{}, api.ErrArg)
			checkJoin(t, made(n, nil), made(n, nil), api.Circuit{}, api.ErrArg)
		}
	}
	// More outputs than a circuit may have are as many as the inputs of one that is not valid either.
	checkJoin(t, made(1, nil, make([]int, 1001)...), made(1001, nil), api.Circuit{}, api.ErrArg)
}

// P17.5: numbers of outputs and of inputs.
func TestJoinNumbers(t *testing.T) {
	numbers := []int{0, 1, 2, 3, 4, 255, 256, 257, 999, 1000}
	for _, outs := range numbers {
		for _, inputs := range numbers {
			a, b := made(2, []api.Gate{xor(0, 1)}, slices.Repeat([]int{2}, outs)...), made(inputs, []api.Gate{one}, inputs)
			if outs == inputs {
				checkJoin(t, a, b, made(2, []api.Gate{xor(0, 1), one}, 3), api.OK)
			} else {
				checkJoin(t, a, b, api.Circuit{}, api.ErrArg)
			}
		}
	}
	// What matters are neither the inputs of a, nor its wires, nor the outputs of b.
	checkJoin(t, made(2, nil, 0), made(2, nil, 0), api.Circuit{}, api.ErrArg)
	checkJoin(t, made(2, []api.Gate{one}, 0), made(3, nil, 0), api.Circuit{}, api.ErrArg)
	checkJoin(t, made(2, nil, 0), made(0, []api.Gate{one}, 0), api.Circuit{}, api.ErrArg)
}

// P17.5: the greatest number of gates, and one gate too many.
func TestJoinSize(t *testing.T) {
	for _, n := range []int{0, 1, 2, 9999, 10000, 10001, 19998, 19999, 20000} {
		for _, other := range []int{0, 1, 2, 9999, 10000, 10001, 19998, 19999, 20000} {
			a, b := made(1, chain(api.GateNot, 1, n), n), made(1, chain(api.GateNot, 1, other), other)
			if n+other > 20000 {
				checkJoin(t, a, b, api.Circuit{}, api.ErrSize)
			} else {
				checkJoin(t, a, b, made(1, chain(api.GateNot, 1, n+other), n+other), api.OK)
			}
			a, b = made(0, slices.Repeat([]api.Gate{zero}, n)), made(0, slices.Repeat([]api.Gate{zero}, other))
			if n+other > 20000 {
				checkJoin(t, a, b, api.Circuit{}, api.ErrSize)
			} else {
				checkJoin(t, a, b, made(0, slices.Repeat([]api.Gate{zero}, n+other)), api.OK)
			}
		}
	}
	rng := rand.New(rand.NewSource(182))
	a, b := randomCircuit(rng, 1000, 12345, 1000), randomCircuit(rng, 1000, 20000-12345, 1000)
	checkJoined(t, a, b)
	checkJoin(t, a, made(1000, append(b.Gates, one), b.Outs...), api.Circuit{}, api.ErrSize)
	checkJoin(t, made(1000, append(a.Gates, one), a.Outs...), b, api.Circuit{}, api.ErrSize)
}

// P17.5: circuits to which both errors apply.
func TestJoinErrorOrder(t *testing.T) {
	most := slices.Repeat([]api.Gate{one}, 20000)
	right := made(1, most, 0)
	checkJoin(t, right, right, api.Circuit{}, api.ErrSize)
	checkJoin(t, right, made(2, most, 0), api.Circuit{}, api.ErrArg)
	checkJoin(t, made(1, most), right, api.Circuit{}, api.ErrArg)
	checkJoin(t, made(1, most, 0, 0), right, api.Circuit{}, api.ErrArg)
	wrongGate := slices.Clone(most)
	wrongGate[19999].B = 1
	for _, c := range []api.Circuit{
		made(1, wrongGate, 0), made(1, most, 20001), made(1, most, -1), made(1, append(slices.Clone(most), one), 0), made(-1, most, 0),
		made(1001, most, 0), made(1, most, make([]int, 1001)...),
	} {
		checkJoin(t, c, right, api.Circuit{}, api.ErrArg)
		checkJoin(t, right, c, api.Circuit{}, api.ErrArg)
		checkJoin(t, c, made(2, most, 0), api.Circuit{}, api.ErrArg)
		checkJoin(t, made(1, most), c, api.Circuit{}, api.ErrArg)
		checkJoin(t, c, c, api.Circuit{}, api.ErrArg)
		checkJoin(t, c, made(1, []api.Gate{one}, 0), api.Circuit{}, api.ErrArg)
		checkJoin(t, made(1, []api.Gate{one}, 0), c, api.Circuit{}, api.ErrArg)
	}
}

// P17.5: a result is new memory, which neither the arguments nor another result share.
func TestJoinIsNew(t *testing.T) {
	list := []api.Circuit{
		same(2), made(2, nil, 1, 1), made(2, []api.Gate{and(0, 1)}, 2, 0), made(2, []api.Gate{one, not(2), zero, xor(3, 1)}, 4, 5),
	}
	for _, a := range list {
		for _, b := range list {
			want, _ := joinModel(a, b)
			first, second := laidOut(a), laidOut(b)
			got, _ := circuit.Join(first, second)
			fill(first.Gates, api.Gate{Op: 99})
			fill(first.Outs, 99)
			fill(second.Gates, api.Gate{Op: 98})
			fill(second.Outs, 98)
			if !sameModel(got, want) {
				t.Errorf("a change of the arguments changes Join(%s, %s) to %s", show(a), show(b), show(got))
			}
			first, second = laidOut(a), laidOut(b)
			got, _ = circuit.Join(first, second)
			fill(got.Gates, api.Gate{Op: 97})
			fill(got.Outs, 97)
			if !sameModel(whole(first), whole(laidOut(a))) || !sameModel(whole(second), whole(laidOut(b))) {
				t.Errorf("a change of Join(%s, %s) changes the arguments", show(a), show(b))
			}
			if again, _ := circuit.Join(first, second); !sameModel(again, want) {
				t.Errorf("a change of Join(%s, %s) changes the next result to %s", show(a), show(b), show(again))
			}
		}
	}
}

// P17.5: a circuit that is joined with itself.
func TestJoinTwice(t *testing.T) {
	rng := rand.New(rand.NewSource(183))
	for range 200 {
		c := randomCircuit(rng, 3, rng.Intn(20), 3)
		want, _ := joinModel(c, c)
		unchanged(t, c, func(c api.Circuit) {
			if got, e := circuit.Join(c, c); !sameModel(got, want) || e != api.OK {
				t.Errorf("Join of the circuit %s with itself is %s with the error %d, not %s", show(c), show(got), e, show(want))
			}
		})
	}
}

// checkComposed checks that a joined circuit has the values of b for those of a, and at most the depths of both.
func checkComposed(t *testing.T, a, b api.Circuit, list [][]bool) {
	t.Helper()
	c, e := circuit.Join(a, b)
	if e != api.OK || !circuit.Right(c) || !rightModel(c) {
		t.Fatalf("Join(%s, %s) is %s with the error %d", show(a), show(b), show(c), e)
	}
	if depth, first, second := circuit.Depth(c), circuit.Depth(a), circuit.Depth(b); depth > first+second || depth != depthModel(c) {
		t.Fatalf("Join(%s, %s) has the depth %d, but they have the depths %d and %d", show(a), show(b), depth, first, second)
	}
	for _, in := range list {
		got, e := circuit.Eval(c, in)
		between, other := circuit.Eval(a, in)
		want, another := circuit.Eval(b, between)
		if e != api.OK || other != api.OK || another != api.OK || !slices.Equal(got, want) {
			t.Fatalf("Join(%s, %s) leads from %v to %v with the error %d, not to %v with the errors %d and %d", show(a), show(b), in, got, e, want,
				other, another)
		}
		if own := evalModel(b, evalModel(a, in)); !slices.Equal(got, own) {
			t.Fatalf("Join(%s, %s) leads from %v to %v, not to %v", show(a), show(b), in, got, own)
		}
	}
}

// P17.7: all pairs of circuits with one gate, and many with two, for all values of the inputs.
func TestComposeSmall(t *testing.T) {
	rng := rand.New(rand.NewSource(184))
	for inputs := range 3 {
		for outs := range 3 {
			first, second := everyCircuit(inputs, 1), everyCircuit(outs, 1)
			more, other := everyCircuit(inputs, 2), everyCircuit(outs, 2)
			for range 20 {
				first, second = append(first, more[rng.Intn(len(more))]), append(second, other[rng.Intn(len(other))])
			}
			for _, a := range first {
				for _, b := range second {
					a.Outs = upTo(outs)
					for i := range a.Outs {
						a.Outs[i] = rng.Intn(a.Inputs + len(a.Gates))
					}
					checkComposed(t, a, b, everyInput(inputs))
				}
			}
		}
	}
}

// P17.7: random circuits.
func TestComposeRandom(t *testing.T) {
	rng := rand.New(rand.NewSource(185))
	for range 1000 {
		a := randomCircuit(rng, 1+rng.Intn(4), rng.Intn(40), rng.Intn(6))
		b := randomCircuit(rng, len(a.Outs), rng.Intn(40), rng.Intn(6))
		checkComposed(t, a, b, everyInput(a.Inputs))
	}
	a, b := randomCircuit(rng, 1000, 10000, 1000), randomCircuit(rng, 1000, 10000, 1000)
	checkComposed(t, a, b, [][]bool{randomInput(rng, 1000), randomInput(rng, 1000)})
}

// P17.7: the depth is that of both together if the deepest output of a is the input of a deepest path of b, and may be less.
func TestComposeDepth(t *testing.T) {
	a := made(1, []api.Gate{not(0), not(1), not(2)}, 3, 0)
	for _, x := range []struct {
		b           api.Circuit
		depth, want int
	}{
		{made(2, []api.Gate{not(0), not(2)}, 3), 2, 5}, {made(2, []api.Gate{not(1), not(2)}, 3), 2, 2}, {made(2, nil, 0), 0, 3},
		{made(2, nil, 1), 0, 0},
		{made(2, []api.Gate{one}, 2), 1, 1}, {made(2, []api.Gate{not(1), not(2), and(3, 0)}, 4), 3, 4}, {made(2, nil), 0, 0},
	} {
		c, e := circuit.Join(a, x.b)
		if e != api.OK || circuit.Depth(a) != 3 || circuit.Depth(x.b) != x.depth || circuit.Depth(c) != x.want {
			t.Errorf("Join(%s, %s) has the depth %d with the error %d, not %d", show(a), show(x.b), circuit.Depth(c), e, x.want)
		}
	}
}
