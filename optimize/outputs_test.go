package optimize_test

import (
	"math/rand"
	"testing"

	"cellular/api"
)

// checkAllOutputs checks that no function changes the outputs of a circuit for all inputs, of which there are few.
func checkAllOutputs(t *testing.T, c api.Circuit) {
	t.Helper()
	for _, f := range calls {
		got := checkShape(t, f, c)
		for _, in := range everyInput(c.Inputs) {
			checkEval(t, c, got, in)
		}
	}
}

// P19.1 to P19.5: all circuits with few gates, with all wires as outputs, or only the last one.
func TestSmallCircuits(t *testing.T) {
	for _, size := range [][2]int{
		{0, 0}, {0, 1}, {0, 2}, {0, 3}, {0, 4}, {1, 0}, {1, 1}, {1, 2}, {1, 3}, {2, 0}, {2, 1}, {2, 2}, {3, 1}, {3, 2}, {4, 1},
	} {
		for _, c := range everyCircuit(size[0], size[1]) {
			wires := size[0] + size[1]
			for _, outs := range [][]int{upTo(wires), upTo(wires)[max(0, wires-1):]} {
				c.Outs = outs
				checkAllOutputs(t, c)
				for _, f := range calls {
					checkModel(t, f, c)
				}
			}
		}
	}
}

// P19.5: all circuits with two inputs and three gates, with all wires as outputs.
func TestCircuitsOfThreeGates(t *testing.T) {
	for _, c := range everyCircuit(2, 3) {
		c.Outs = upTo(5)
		checkAllOutputs(t, c)
	}
}

// P19.5: random circuits, for all inputs.
func TestOutputsForAllInputs(t *testing.T) {
	randomCircuits(1910, 2000, func(_ *rand.Rand, c api.Circuit) { checkAllOutputs(t, c) })
}

// P19.5: greater circuits, for many inputs.
func TestOutputsOfGreaterCircuits(t *testing.T) {
	rng := rand.New(rand.NewSource(1911))
	for range 200 {
		c := randomCircuit(rng, rng.Intn(100), rng.Intn(1000), rng.Intn(200))
		for _, f := range calls {
			got := checkShape(t, f, c)
			for range 10 {
				checkEval(t, c, got, randomInput(rng, c.Inputs))
			}
			for range 10 {
				checkWords(t, rng, c, got)
			}
		}
	}
}

// P19.5: a function of the package applied to the result of another one.
func TestOutputsOfResults(t *testing.T) {
	randomCircuits(1912, 500, func(rng *rand.Rand, c api.Circuit) {
		next := c
		for range 6 {
			next = checkModel(t, calls[rng.Intn(4)], next)
			for _, in := range everyInput(c.Inputs) {
				checkEval(t, c, next, in)
			}
		}
	})
}
