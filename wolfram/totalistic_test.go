package wolfram_test

import (
	"math"
	"math/big"
	"math/rand"
	"slices"
	"testing"

	"cellular/api"
	"cellular/wolfram"
)

// P10.3, P10.4
func TestDigitsExamples(t *testing.T) {
	for _, c := range []struct {
		states, n int
		want      []int
	}{
		{2, 0, []int{0, 0, 0, 0}},
		{2, 1, []int{1, 0, 0, 0}},
		{2, 6, []int{0, 1, 1, 0}},
		{2, 8, []int{0, 0, 0, 1}},
		{2, 10, []int{0, 1, 0, 1}},
		{2, 15, []int{1, 1, 1, 1}},
		{3, 0, []int{0, 0, 0, 0, 0, 0, 0}},
		{3, 5, []int{2, 1, 0, 0, 0, 0, 0}},
		{3, 777, []int{0, 1, 2, 1, 0, 0, 1}},
		{3, 2186, []int{2, 2, 2, 2, 2, 2, 2}},
		{4, 27, []int{3, 2, 1, 0, 0, 0, 0, 0, 0, 0}},
		{4, 1<<20 - 1, []int{3, 3, 3, 3, 3, 3, 3, 3, 3, 3}},
		{5, 244140625, []int{0, 0, 0, 0, 0, 0, 0, 0, 0, 0, 0, 0, 1}},
		{6, 2821109907455, []int{5, 5, 5, 5, 5, 5, 5, 5, 5, 5, 5, 5, 5, 5, 5, 5}},
		{7, 11398895185373142, []int{6, 6, 6, 6, 6, 6, 6, 6, 6, 6, 6, 6, 6, 6, 6, 6, 6, 6, 6}},
		{8, 0o1234567, []int{7, 6, 5, 4, 3, 2, 1, 0, 0, 0, 0, 0, 0, 0, 0, 0, 0, 0, 0, 0, 0, 0}},
		{8, 1 << 60, []int{0, 0, 0, 0, 0, 0, 0, 0, 0, 0, 0, 0, 0, 0, 0, 0, 0, 0, 0, 0, 1, 0}},
		{8, math.MaxInt, []int{7, 7, 7, 7, 7, 7, 7, 7, 7, 7, 7, 7, 7, 7, 7, 7, 7, 7, 7, 7, 7, 0}},
	} {
		if l, e := wolfram.Digits(c.states, c.n); !slices.Equal(l, c.want) || e != api.OK {
			t.Errorf("Digits(%d, %d) is %v and the error %d, not %v", c.states, c.n, l, e, c.want)
		}
		if n, e := wolfram.Code(c.states, c.want); n != c.n || e != api.OK {
			t.Errorf("Code(%d, %v) is %d and the error %d, not %d", c.states, c.want, n, e, c.n)
		}
	}
}

// P10.3: the errors, at the limits of the codes and of the numbers of states.
func TestDigitsErrors(t *testing.T) {
	for _, c := range []struct {
		states, n int
		want      api.Errno
	}{
		{2, 15, api.OK}, {2, 16, api.ErrRange}, {2, 17, api.ErrRange}, {2, 22, api.ErrRange}, {2, 256, api.ErrRange},
		{3, 2186, api.OK}, {3, 2187, api.ErrRange}, {3, 2188, api.ErrRange}, {3, 2187 + 777, api.ErrRange}, {3, 2187 * 3, api.ErrRange},
		{4, 1048575, api.OK}, {4, 1048576, api.ErrRange},
		{5, 1220703124, api.OK}, {5, 1220703125, api.ErrRange},
		{6, 2821109907455, api.OK}, {6, 2821109907456, api.ErrRange},
		{7, 11398895185373142, api.OK}, {7, 11398895185373143, api.ErrRange},
		{8, math.MaxInt, api.OK}, {7, math.MaxInt, api.ErrRange}, {2, math.MaxInt, api.ErrRange},
		{2, -1, api.ErrRange}, {5, -1, api.ErrRange}, {8, -1, api.ErrRange}, {3, -777, api.ErrRange}, {3, -2187, api.ErrRange},
		{2, math.MinInt, api.ErrRange}, {7, math.MinInt, api.ErrRange}, {8, math.MinInt, api.ErrRange},
		{1, 0, api.ErrArg}, {0, 0, api.ErrArg}, {-1, 0, api.ErrArg}, {9, 0, api.ErrArg}, {10, 0, api.ErrArg}, {16, 1, api.ErrArg},
		{math.MinInt, 0, api.ErrArg}, {math.MaxInt, 0, api.ErrArg},
		// Both arguments are wrong.
		{1, -1, api.ErrArg}, {9, -1, api.ErrArg}, {0, math.MaxInt, api.ErrArg}, {math.MinInt, math.MinInt, api.ErrArg}, {1, 2, api.ErrArg},
	} {
		l, e := wolfram.Digits(c.states, c.n)
		if e != c.want || (e == api.OK) != (len(l) > 0) {
			t.Errorf("Digits(%d, %d) is %v and the error %d, not %d", c.states, c.n, l, e, c.want)
		}
	}
}

// P10.3: each number of states with codes, and with numbers that are none; numbers of states that no rule has.
func TestDigits(t *testing.T) {
	twice(t, func(t *testing.T) {
		for _, states := range append([]int{4, 5}, ints...) {
			list := slices.Clone(ints)
			if isPossible(states) {
				list = append(append(list, someCodes(states)...), greatest(states)-1, greatest(states))
				if last := greatest(states); last < math.MaxInt {
					list = append(list, last+1, last+2, last+states, 2*last+1, 2*(last+1))
				}
			}
			for _, n := range list {
				checkDigits(t, states, n)
			}
		}
	})
}

// P10.3: all numbers around the codes of two, of three and of four states.
func TestDigitsOfManyNumbers(t *testing.T) {
	for n := -3000; n < 3000; n++ {
		for states := 2; states <= api.MaxStates; states++ {
			checkDigits(t, states, n)
		}
	}
	for n := 1<<20 - 1000; n < 1<<20+1000; n++ {
		checkDigits(t, 4, n)
	}
}

// checkDigits compares Digits with the model.
func checkDigits(t *testing.T, states, n int) {
	t.Helper()
	got, e := wolfram.Digits(states, n)
	if want, expected := digitsModel(states, n); !slices.Equal(got, want) || e != expected {
		t.Errorf("Digits(%d, %d) is %v and the error %d, not %v and %d", states, n, got, e, want, expected)
	}
}

// P10.3: no two results share memory, whether their rules are the same or not.
func TestDigitsResultsAreNew(t *testing.T) {
	for states := 2; states <= api.MaxStates; states++ {
		for _, n := range []int{0, 6, 15, greatest(states)} {
			want, _ := digitsModel(states, n)
			other, _ := digitsModel(states, 1)
			first, _ := wolfram.Digits(states, n)
			second, _ := wolfram.Digits(states, n)
			third, _ := wolfram.Digits(states, 1)
			spoil(second)
			if !slices.Equal(first, want) || !slices.Equal(third, other) {
				t.Errorf("a change of a result of Digits(%d, %d) changes others to %v and %v", states, n, first, third)
			}
			spoil(first)
			if !slices.Equal(third, other) {
				t.Errorf("a change of the result of Digits(%d, %d) changes that of Digits(%d, 1) to %v", states, n, states, third)
			}
			spoil(third)
			checkDigits(t, states, n)
			checkDigits(t, states, 1)
		}
	}
}

// P10.4: the numbers of states, with lists of the lengths that belong to them and to others.
func TestCodeStatesAndLengths(t *testing.T) {
	for _, states := range append([]int{4, 5}, ints...) {
		for n := range 30 {
			checkCode(t, states, make([]int, n))
			checkCode(t, states, slices.Repeat([]int{1}, n))
			checkCode(t, states, slices.Repeat([]int{states}, n))
		}
		checkCode(t, states, nil)
		checkCode(t, states, make([]int, 10000))
	}
	for states := 2; states <= api.MaxStates; states++ {
		right := 3*states - 2
		for n, want := range map[int]api.Errno{
			0: api.ErrArg, 1: api.ErrArg, right - 1: api.ErrArg, right: api.OK, right + 1: api.ErrArg, 2 * right: api.ErrArg,
		} {
			if code, e := wolfram.Code(states, make([]int, n)); code != 0 || e != want {
				t.Errorf("with %d states the code of %d zeros is %d and the error %d, not %d", states, n, code, e, want)
			}
		}
		if code, e := wolfram.Code(states, nil); code != 0 || e != api.ErrArg {
			t.Errorf("with %d states the code of no list is %d and the error %d", states, code, e)
		}
	}
	// The length would belong to these numbers of states if there were such rules.
	for _, states := range []int{1, 9, 10, 100} {
		if code, e := wolfram.Code(states, make([]int, 3*states-2)); code != 0 || e != api.ErrArg {
			t.Errorf("with %d states the code is %d and the error %d", states, code, e)
		}
	}
}

// P10.4: one element that is not a state, at each place of lists of all kinds.
func TestCodeState(t *testing.T) {
	for states := 2; states <= api.MaxStates; states++ {
		for _, n := range []int{0, 1, greatest(states) / 2, greatest(states)} {
			for place := range length(states) {
				for _, state := range append([]int{-1, states, states + 1, -states, states - 1}, ints...) {
					l, _ := digitsModel(states, n)
					l[place] = state
					checkCode(t, states, l)
				}
				for _, state := range []int{-1, states, math.MinInt, math.MaxInt} {
					l, _ := digitsModel(states, n)
					l[place] = state
					if code, e := wolfram.Code(states, l); code != 0 || e != api.ErrState {
						t.Errorf("Code(%d, %v) is %d and the error %d", states, l, code, e)
					}
				}
			}
		}
	}
}

// P10.4: codes that are the greatest int, or greater.
func TestCodeRange(t *testing.T) {
	const states = 8
	after := new(big.Int).Add(maxInt, big.NewInt(1))
	two := new(big.Int).Lsh(after, 1)
	for _, c := range []struct {
		n    *big.Int
		want api.Errno
	}{
		{new(big.Int).Sub(maxInt, big.NewInt(1)), api.OK},
		{maxInt, api.OK},
		{after, api.ErrRange},
		{new(big.Int).Add(after, big.NewInt(1)), api.ErrRange},
		{new(big.Int).Add(after, big.NewInt(7)), api.ErrRange},
		{new(big.Int).Add(after, big.NewInt(8)), api.ErrRange},
		{new(big.Int).Sub(two, big.NewInt(1)), api.ErrRange},
		{two, api.ErrRange},
		{new(big.Int).Add(two, big.NewInt(777)), api.ErrRange},
		{new(big.Int).Sub(codes(states), big.NewInt(2)), api.ErrRange},
		{new(big.Int).Sub(codes(states), big.NewInt(1)), api.ErrRange},
	} {
		l := written(states, c.n)
		n, e := wolfram.Code(states, l)
		if e != c.want || e == api.OK && c.n.Cmp(big.NewInt(int64(n))) != 0 || e != api.OK && n != 0 {
			t.Errorf("Code(%d, %v) is %d and the error %d, not %v and %d", states, l, n, e, c.n, c.want)
		}
	}
}

// P10.4: the code of a list with one element that is not 0, at each place.
func TestCodeOfEachPlace(t *testing.T) {
	for states := 2; states <= api.MaxStates; states++ {
		for place := range length(states) {
			for state := range states {
				l := make([]int, length(states))
				l[place] = state
				checkCode(t, states, l)
			}
		}
	}
}

// P10.4: lists with two faults lead to the error that is named first.
func TestCodeOrderOfErrors(t *testing.T) {
	high := slices.Repeat([]int{7}, 22)
	for _, c := range []struct {
		states int
		l      []int
		want   api.Errno
	}{
		// The number of states, or the length, and an element.
		{1, []int{-1}, api.ErrArg}, {9, slices.Repeat([]int{9}, 25), api.ErrArg}, {2, []int{0, 2, 0}, api.ErrArg},
		{2, []int{0, 2, 0, 0, 0}, api.ErrArg}, {2, []int{-1}, api.ErrArg}, {3, []int{0, 0, 0, 3}, api.ErrArg},
		{math.MaxInt, []int{-1}, api.ErrArg}, {math.MinInt, []int{-1, 2, 0, 0}, api.ErrArg},
		// The number of states, or the length, and the code.
		{9, slices.Repeat([]int{8}, 25), api.ErrArg}, {8, append(slices.Clone(high), 7), api.ErrArg}, {9, high, api.ErrArg},
		// Two elements.
		{2, []int{2, 0, 0, -1}, api.ErrState}, {3, []int{-1, 0, 0, 0, 0, 0, 3}, api.ErrState},
		// An element that is far too great, so that the code would be, too.
		{2, []int{0, 0, 0, math.MaxInt}, api.ErrState}, {8, append(make([]int, 21), math.MaxInt), api.ErrState},
	} {
		if n, e := wolfram.Code(c.states, c.l); n != 0 || e != c.want {
			t.Errorf("Code(%d, %v) is %d and the error %d, not %d", c.states, c.l, n, e, c.want)
		}
	}
	// An element at each place, and the code.
	for place := range high {
		for _, state := range []int{-1, 8, math.MinInt, math.MaxInt} {
			l := slices.Clone(high)
			l[place] = state
			if n, e := wolfram.Code(8, l); n != 0 || e != api.ErrState {
				t.Errorf("Code(8, %v) is %d and the error %d", l, n, e)
			}
		}
	}
}

// P10.4, P10.6: lists of random states, some of which are none.
func TestCodeRandom(t *testing.T) {
	rng := rand.New(rand.NewSource(104))
	for range 20000 {
		states := 2 + rng.Intn(7)
		l := make([]int, length(states))
		for k := range rng.Intn(len(l) + 1) {
			l[k] = rng.Intn(states)
		}
		checkCode(t, states, l)
		l[rng.Intn(len(l))] = rng.Intn(2*states) - states/2
		checkCode(t, states, l)
		checkDigits(t, states, rng.Int()>>rng.Intn(63))
	}
}

// checkCode compares Code with the model, checks that it left the list and what lies behind it in memory as they were, and that the
// digits of the code are the list.
func checkCode(t *testing.T, states int, l []int) {
	t.Helper()
	given := laid(l)
	got, e := wolfram.Code(states, given)
	if want, expected := codeModel(states, l); got != want || e != expected {
		t.Errorf("Code(%d, %v) is %d and the error %d, not %d and %d", states, short(l), got, e, want, expected)
	}
	if !slices.Equal(whole(given), whole(laid(l))) {
		t.Errorf("Code(%d, %v) changed the list to %v", states, short(l), short(given))
	}
	if e != api.OK {
		return
	}
	if back, e := wolfram.Digits(states, got); e != api.OK || !slices.Equal(back, l) {
		t.Errorf("Digits(%d, Code(%d, %v)) is %v, with the error %d", states, states, l, back, e)
	}
}

// P10.3, P10.4: Code keeps neither its list nor a result of Digits.
func TestCodeKeepsNothing(t *testing.T) {
	for states := 2; states <= api.MaxStates; states++ {
		for _, n := range []int{0, 1, 6, greatest(states)} {
			l, _ := wolfram.Digits(states, n)
			later, _ := wolfram.Digits(states, n)
			if got, e := wolfram.Code(states, l); got != n || e != api.OK {
				t.Errorf("Code(%d, %v) is %d and the error %d", states, l, got, e)
			}
			spoil(l)
			if got, e := wolfram.Code(states, later); got != n || e != api.OK {
				t.Errorf("after a change of the list, Code(%d, %v) is %d and the error %d", states, later, got, e)
			}
			checkDigits(t, states, n)
			if got, e := wolfram.Code(states, l); got != 0 || e != api.ErrState {
				t.Errorf("Code(%d, %v) is %d and the error %d", states, l, got, e)
			}
		}
	}
}

// P10.6: every code of two and of three states, and some of each other number of states.
func TestCodeOfDigits(t *testing.T) {
	for states := 2; states <= api.MaxStates; states++ {
		list := someCodes(states)
		if states < 4 {
			for n := range greatest(states) + 1 {
				list = append(list, n)
			}
		}
		for _, n := range list {
			l, e := wolfram.Digits(states, n)
			if got, f := wolfram.Code(states, l); got != n || e != api.OK || f != api.OK {
				t.Errorf("Code(%d, Digits(%d, %d)) is %d, with the errors %d and %d", states, states, n, got, e, f)
			}
		}
	}
}
