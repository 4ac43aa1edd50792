package circuit_test

import (
	"fmt"
	"math/rand"
	"slices"
	"testing"

	"cellular/api"
	"cellular/circuit"
)

// checkWords compares Words with the expected words, and checks that they are new memory.
func checkWords(t *testing.T, c api.Circuit, in, want []uint64) {
	t.Helper()
	unchanged(t, c, func(c api.Circuit) {
		listUnchanged(t, in, 7777, func(in []uint64) {
			got, e := circuit.Words(c, in)
			if e != api.OK || !slices.Equal(got, want) {
				t.Errorf("Words of the circuit %s for %s is %x with the error %d, not %x", show(c), begin(fmt.Sprintf("%x", in)), got, e, want)
			}
			fill(got, 99)
			if again, _ := circuit.Words(c, in); !slices.Equal(again, want) {
				t.Errorf("a change of the result changes the next one to %x", again)
			}
		})
	})
}

// checkWordsError checks that Words returns its error and nothing else.
func checkWordsError(t *testing.T, c api.Circuit, in []uint64) {
	t.Helper()
	unchanged(t, c, func(c api.Circuit) {
		listUnchanged(t, in, 7777, func(in []uint64) {
			if got, e := circuit.Words(c, in); e != api.ErrArg || len(got) > 0 {
				t.Errorf("Words of the circuit %s for %d words is %x with the error %d", show(c), len(in), got, e)
			}
		})
	})
}

// P17.3: the examples of the chapter, and all values of up to six inputs in one word each.
func TestWordsExamples(t *testing.T) {
	checkWords(t, made(2, []api.Gate{xor(0, 1), and(0, 1)}, 2, 3), []uint64{12, 10}, []uint64{6, 8})
	const every = 1<<64 - 1
	in := []uint64{
		0xaaaaaaaaaaaaaaaa, 0xcccccccccccccccc, 0xf0f0f0f0f0f0f0f0, 0xff00ff00ff00ff00, 0xffff0000ffff0000, 0xffffffff00000000,
	}
	checkWords(t, same(6), in, in)
	checkWords(t, made(6, []api.Gate{zero, one}, 6, 7), in, []uint64{0, every})
	checkWords(t, made(6, []api.Gate{not(0), not(5)}, 6, 7), in, []uint64{0x5555555555555555, 0xffffffff})
	all := func(g func(a, b int) api.Gate) api.Circuit {
		return made(6, []api.Gate{g(0, 1), g(2, 6), g(3, 7), g(4, 8), g(5, 9)}, 10)
	}
	checkWords(t, all(and), in, []uint64{1 << 63})
	checkWords(t, all(or), in, []uint64{every - 1})
	checkWords(t, all(xor), in, []uint64{0x6996966996696996})
}

// P17.3: the bits of a word that are set change the same bits of the outputs only.
func TestWordsBits(t *testing.T) {
	for b := range 64 {
		bit := uint64(1) << b
		checkWords(t, same(1), []uint64{bit}, []uint64{bit})
		checkWords(t, made(1, []api.Gate{not(0), not(1)}, 1, 2), []uint64{bit}, []uint64{^bit, bit})
		for other := range 64 {
			second := uint64(1) << other
			both := uint64(0)
			if b == other {
				both = bit
			}
			checkWords(t, made(2, []api.Gate{and(0, 1), or(0, 1), xor(0, 1)}, 2, 3, 4), []uint64{bit, second},
				[]uint64{both, bit | second, bit + second - 2*both})
		}
	}
}

// P17.3: 64 sums at once.
func TestWordsAdders(t *testing.T) {
	rng := rand.New(rand.NewSource(175))
	c := adder(16)
	for range 50 {
		in, want := make([]uint64, 32), make([]uint64, 17)
		for b := range 64 {
			first, second := rng.Intn(1<<16), rng.Intn(1<<16)
			for i := range 17 {
				want[i] |= uint64((first+second)>>i&1) << b
			}
			for i := range 16 {
				in[i] |= uint64(first>>i&1) << b
				in[16+i] |= uint64(second>>i&1) << b
			}
		}
		checkWords(t, c, in, want)
	}
}

// P17.3: a result has memory of its own, also if it is the inputs.
func TestWordsAreNew(t *testing.T) {
	for n := range 10 {
		in := make([]uint64, n, n+20)
		fill(in, 5)
		got, _ := circuit.Words(same(n), in)
		fill(in, 6)
		if !slices.Equal(got, slices.Repeat([]uint64{5}, n)) {
			t.Errorf("a change of the words of %d inputs changes the result to %x", n, got)
		}
		fill(got, 7)
		if !slices.Equal(in[:cap(in)], slices.Repeat([]uint64{6}, n+20)) {
			t.Errorf("a change of the result changes the words of the inputs to %x", in)
		}
		values := make([]bool, n, n+20)
		fill(values, true)
		outs, _ := circuit.Eval(same(n), values)
		fill(values, false)
		if !slices.Equal(outs, slices.Repeat([]bool{true}, n)) {
			t.Errorf("a change of the values of %d inputs changes the result to %v", n, outs)
		}
		fill(outs, true)
		if slices.Contains(values[:cap(values)], true) {
			t.Errorf("a change of the result changes the values of the inputs to %v", values)
		}
	}
}

// checkParallel compares each bit of Words with Eval for the bits of the inputs, and with the model.
func checkParallel(t *testing.T, c api.Circuit, in []uint64) {
	t.Helper()
	got, e := circuit.Words(c, in)
	if e != api.OK || len(got) != len(c.Outs) {
		t.Fatalf("Words of the circuit %s has %d words with the error %d", show(c), len(got), e)
	}
	for b := range 64 {
		values, e := circuit.Eval(c, bitsOf(in, b))
		if e != api.OK || !slices.Equal(values, bitsOf(got, b)) {
			t.Fatalf("the bits %d of Words of the circuit %s are %v, but Eval is %v with the error %d", b, show(c), bitsOf(got, b), values, e)
		}
	}
	if want := wordsModel(c, in); !slices.Equal(got, want) {
		t.Fatalf("Words of the circuit %s is %x, not %x", show(c), got, want)
	}
}

// P17.3, P17.8: all circuits with up to two gates, all wires of which are outputs.
func TestParallelSmall(t *testing.T) {
	rng := rand.New(rand.NewSource(176))
	for inputs := range 4 {
		for gates := range 3 {
			for _, c := range everyCircuit(inputs, gates) {
				checkParallel(t, c, randomWords(rng, inputs))
			}
		}
	}
}

// P17.3, P17.8: random circuits.
func TestParallelRandom(t *testing.T) {
	rng := rand.New(rand.NewSource(177))
	for range 1000 {
		c := randomCircuit(rng, rng.Intn(10), rng.Intn(60), rng.Intn(20))
		in := randomWords(rng, c.Inputs)
		checkParallel(t, c, in)
		checkWords(t, c, in, wordsModel(c, in))
	}
}

// P17.3, P17.8: circuits with the greatest numbers of inputs, gates and outputs.
func TestParallelAtLimits(t *testing.T) {
	rng := rand.New(rand.NewSource(178))
	c, in := largest(rng), randomWords(rng, 1000)
	checkParallel(t, c, in)
	checkWords(t, c, in, wordsModel(c, in))
	word := rng.Uint64()
	checkWords(t, made(1, chain(api.GateNot, 1, 20000), 20000, 19999), []uint64{word}, []uint64{word, ^word})
}
