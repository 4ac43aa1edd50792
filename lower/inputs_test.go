package lower_test

import (
	"math/rand"
	"slices"
	"testing"

	"cellular/api"
	"cellular/lower"
)

// P18.1: inputs that are written down.
func TestInputsExamples(t *testing.T) {
	for _, x := range []struct {
		states int
		in     []int
		digits string
	}{
		{2, []int{0}, "0"}, {2, []int{1}, "1"}, {2, []int{1, 0, 0, 1, 1}, "10011"},
		{3, []int{2, 1}, "0110"}, {3, []int{0}, "00"}, {3, []int{1, 2, 0}, "100100"},
		{4, []int{3}, "11"}, {4, []int{0, 1, 2, 3}, "00100111"},
		{5, []int{4}, "001"}, {5, []int{3, 4, 2}, "110001010"}, {6, []int{5, 1}, "101100"}, {7, []int{6, 0, 5}, "011000101"},
		{8, []int{7}, "111"}, {8, []int{1, 2, 4, 3, 6, 0, 7, 5}, "100010001110011000111101"},
	} {
		want := []bool{}
		for _, digit := range x.digits {
			want = append(want, digit == '1')
		}
		checkInputs(t, constant(x.states, len(x.in), 0), x.in, want)
		checkInputs(t, reading(x.states, len(x.in), len(x.in)-1), x.in, want)
	}
}

// P18.1: all states of small rules, and many of greater ones, among them the least and the greatest.
func TestInputsOfManyStates(t *testing.T) {
	rng := rand.New(rand.NewSource(180))
	for states := 2; states <= 8; states++ {
		for positions := 1; positions <= 25; positions++ {
			own := randomTree(rng, states, positions, positions+1+rng.Intn(10))
			list := [][]int{make([]int, positions), slices.Repeat([]int{states - 1}, positions)}
			for i := range positions {
				l := make([]int, positions)
				l[i] = states - 1
				list = append(list, l, randomList(rng, states, positions))
			}
			if positions <= 3 {
				list = everyList(states, positions)
			}
			for _, in := range list {
				checkInputs(t, own, in, inputsModel(states, in))
			}
		}
	}
}

// P18.1: each error alone.
func TestInputsErrors(t *testing.T) {
	for states := 2; states <= 8; states++ {
		for _, positions := range []int{1, 2, 3, 9, 25} {
			own := constant(states, positions, 1)
			for _, n := range []int{0, 1, positions - 1, positions, positions + 1, 2 * positions, 26, 1000} {
				if n != positions {
					checkInputsError(t, own, make([]int, n), api.ErrArg)
				}
			}
			checkInputsError(t, own, nil, api.ErrArg)
			for i := range positions {
				for _, s := range append([]int{states, states + 1, -states}, ints...) {
					in := slices.Repeat([]int{states - 1}, positions)
					in[i] = s
					if s < 0 || s >= states {
						checkInputsError(t, own, in, api.ErrState)
					} else {
						checkInputs(t, own, in, inputsModel(states, in))
					}
				}
			}
		}
	}
	for _, own := range wrongTrees(reading(3, 3, 1)) {
		checkInputsError(t, own, make([]int, len(own.Hood)), api.ErrRule)
	}
}

// P18.1: two errors and three of them together.
func TestInputsErrorOrder(t *testing.T) {
	for _, base := range []api.Tree{reading(2, 1, 0), reading(3, 3, 1), constant(5, 4, 4), constant(8, 25, 7)} {
		n, states := len(base.Hood), base.States
		wrongStates := slices.Repeat([]int{states}, n)
		for _, in := range [][]int{{-1}, {states}, {states, -1}, append(wrongStates, 0), append(make([]int, n), states), make([]int, n+1), nil} {
			if len(in) != n {
				checkInputsError(t, base, in, api.ErrArg)
			}
		}
		for _, own := range wrongTrees(base) {
			for _, in := range [][]int{nil, {}, make([]int, n+1), wrongStates, append(wrongStates, 0), {-1}, {0, -1}, slices.Repeat([]int{-1}, n)} {
				checkInputsError(t, own, in, api.ErrRule)
			}
		}
	}
	checkInputsError(t, api.Tree{}, nil, api.ErrRule)
	checkInputsError(t, api.Tree{}, []int{0}, api.ErrRule)
}

// P18.1: the number of gates does not matter.
func TestInputsOfLargeRules(t *testing.T) {
	rng := rand.New(rand.NewSource(181))
	for _, own := range []api.Tree{randomTree(rng, 8, 25, 4096), sized(randomTree(rng, 3, 9, 500), 20001)} {
		for range 10 {
			in := randomList(rng, own.States, len(own.Hood))
			checkInputs(t, own, in, inputsModel(own.States, in))
		}
	}
}

// P18.1: a result is new memory, which neither the arguments nor another result share.
func TestInputsAreNew(t *testing.T) {
	for states := 2; states <= 8; states++ {
		for _, positions := range []int{1, 2, 5, 25} {
			own, in := laidOut(reading(states, positions, 0)), slices.Repeat([]int{1}, positions)
			want := inputsModel(states, in)
			first, _ := lower.Inputs(own, in)
			second, _ := lower.Inputs(own, in)
			fill(first, true)
			if !slices.Equal(second, want) {
				t.Errorf("a change of the inputs changes others to %v, not %v", second, want)
			}
			fill(first, false)
			fill(in, 0)
			fill(own.Hood, api.Point{})
			fill(own.Nodes, api.Node{})
			if !slices.Equal(second, want) {
				t.Errorf("a change of other inputs or of the arguments changes the inputs to %v, not %v", second, want)
			}
		}
	}
}
