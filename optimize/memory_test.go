package optimize_test

import (
	"slices"
	"testing"

	"cellular/api"
	"cellular/circuit"
	"cellular/optimize"
)

// given has circuits of which a function could return the lists as they are, the one or both of them, or parts of them, and others.
var given = []api.Circuit{
	made(2, nil, 0, 1, 1),
	made(2, list(zero, one)),
	made(2, list(and(0, 1), or(0, 1), xor(2, 3)), 4, 0, 2),
	made(2, list(and(0, 1), or(0, 1), xor(2, 3), not(4)), 4, 0),
	made(2, list(not(1), and(0, 1), or(0, 1), xor(3, 4)), 5, 0),
	made(2, list(and(1, 0), and(0, 1), or(2, 2), xor(3, 4)), 5, 4, 3),
	made(0, list(one, zero, not(1)), 2, 2, 0),
	layers(3),
}

// Rules for all calls, 4, and rule 7 of the language: a result is new memory, which neither the arguments nor another result share, nor its
// lists with each other.
func TestResultsAreNew(t *testing.T) {
	junk := api.Gate{Op: 99, A: 99, B: 99}
	for _, f := range calls {
		for _, c := range given {
			own, want := laidOut(c), f.model(c)
			first, second := f.own(own), f.own(own)
			fill(first.Gates, junk)
			if !slices.Equal(first.Outs, want.Outs) || !circuit.Same(second, want) || !circuit.Same(whole(own), whole(laidOut(c))) {
				t.Errorf("%s: a change of the gates changes other lists, for the circuit %s", f.name, show(c))
			}
			fill(first.Outs, 98)
			fill(second.Outs, 97)
			if !slices.Equal(first.Gates, slices.Repeat(list(junk), len(want.Gates))) || !slices.Equal(second.Gates, want.Gates) {
				t.Errorf("%s: a change of the outputs changes the gates, for the circuit %s", f.name, show(c))
			}
			if !circuit.Same(whole(own), whole(laidOut(c))) {
				t.Errorf("%s: a change of the results changes the circuit %s", f.name, show(c))
			}
			third := f.own(own)
			fill(own.Gates, junk)
			fill(own.Outs, 96)
			if !circuit.Same(third, want) {
				t.Errorf("%s: a change of the circuit %s, or of an earlier result, changes the result to %s", f.name, show(c), show(third))
			}
		}
	}
}

// Rules for all calls, 4: lists that are parts of longer ones, which stay as they are.
func TestArgumentsInOneList(t *testing.T) {
	gates := list(and(1, 0), and(0, 1), xor(2, 3), not(4), not(5), and(6, 5), zero, or(8, 2))
	outs := []int{2, 3, 2, 3, 2, 3}
	before, wires := slices.Clone(gates), slices.Clone(outs)
	for n := 2; n <= len(gates); n++ {
		for m := range outs {
			c := made(2, gates[:n], outs[:m]...)
			c.Outs = outs[:m]
			for _, f := range calls {
				want := f.model(made(2, before[:n], wires[:m]...))
				if got := f.own(c); !circuit.Same(got, want) || !slices.Equal(gates, before) || !slices.Equal(outs, wires) {
					t.Errorf("%s leads from %s to %s, and the gates become %v, the outputs %v", f.name, show(c), show(got), gates, outs)
				}
			}
		}
	}
}

// Rules for all calls, 3: lists that are empty or nil.
func TestEmptyLists(t *testing.T) {
	for _, f := range calls {
		for _, gates := range [][]api.Gate{nil, {}} {
			for _, outs := range [][]int{nil, {}} {
				for _, inputs := range []int{0, 1, 1000} {
					checkResult(t, f, api.Circuit{Inputs: inputs, Gates: gates, Outs: outs}, made(inputs, nil))
				}
			}
		}
	}
}

// Rules for all calls, 5: results depend on nothing but the argument.
func TestCallsBefore(t *testing.T) {
	want := optimize.All(layers(5))
	for _, f := range calls {
		for _, c := range given {
			f.own(c)
			if got := optimize.All(layers(5)); !circuit.Same(got, want) {
				t.Errorf("after %s of %s All leads to %s", f.name, show(c), show(got))
			}
			if first, second := f.own(c), f.own(c); !circuit.Same(first, second) {
				t.Errorf("%s leads from %s to %s, and then to %s", f.name, show(c), show(first), show(second))
			}
		}
	}
}
