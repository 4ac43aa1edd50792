package lower_test

import (
	"math"
	"slices"
	"testing"

	"cellular/lower"
)

// P18.1: the number of bits, for the numbers of states that a rule may have and for others.
func TestBits(t *testing.T) {
	for i, want := range []int{0, 0, 0, 1, 2, 2, 3, 3, 3, 3, 0, 0} {
		if got := lower.Bits(i - 1); got != want {
			t.Errorf("Bits(%d) is %d, not %d", i-1, got, want)
		}
	}
	for _, n := range append([]int{math.MinInt, math.MaxInt}, ints...) {
		if got := lower.Bits(n); got != widthOf(n) {
			t.Errorf("Bits(%d) is %d, not %d", n, got, widthOf(n))
		}
	}
}

// P18.1: each state of a rule has as many binary digits as the rule has bits, and the greatest one needs them.
func TestBitsAreEnough(t *testing.T) {
	for states := 2; states <= 8; states++ {
		if bits := lower.Bits(states); states > 1<<bits || states <= 1<<(bits-1) {
			t.Errorf("Bits(%d) is %d", states, bits)
		}
	}
}

// checkState compares State with an expected number, and checks that it leaves the list and what lies behind it in memory as they were.
func checkState(t *testing.T, l []bool, want int) {
	t.Helper()
	for _, behind := range []bool{false, true} {
		given := laid(l, behind)
		if got := lower.State(given); got != want {
			t.Errorf("State(%v) is %d, not %d", l, got, want)
		}
		if wanted := laid(l, behind); !slices.Equal(given[:cap(given)], wanted[:cap(wanted)]) {
			t.Errorf("State changed the list %v", l)
		}
	}
}

// P18.1: lists that are written down, among them lists without elements.
func TestStateExamples(t *testing.T) {
	for _, x := range []struct {
		digits string
		want   int
	}{
		{"", 0}, {"0", 0}, {"1", 1}, {"00", 0}, {"10", 1}, {"01", 2}, {"11", 3}, {"100", 1}, {"010", 2}, {"001", 4}, {"110", 3}, {"011", 6},
		{"101", 5}, {"111", 7}, {"1011", 13}, {"0001", 8}, {"00001", 16}, {"11001", 19}, {"000001", 32}, {"0000001", 64}, {"1000001", 65},
		{"1111111", 127}, {"00000001", 128}, {"10000000", 1}, {"11111111", 255}, {"01111111", 254}, {"000000000", 0}, {"100000000", 0},
		{"000000001", 0}, {"111111111", 0}, {"010000000", 0}, {"1111111111", 0}, {"1000000000000000", 0},
	} {
		l := []bool{}
		for _, digit := range x.digits {
			l = append(l, digit == '1')
		}
		checkState(t, l, x.want)
	}
	checkState(t, nil, 0)
}

// P18.1: all lists with up to eight elements, and those with nine.
func TestStateOfAllLists(t *testing.T) {
	for n := range 10 {
		for value, numbers := range everyList(2, n) {
			l, want := make([]bool, n), 0
			for i, digit := range numbers {
				// The numbers are in the order of their values, so the last one is the lowest digit.
				l[n-1-i] = digit == 1
				want = value
			}
			if n == 9 {
				want = 0
			}
			checkState(t, l, want)
		}
	}
}

// P18.1: longer lists.
func TestStateOfLongLists(t *testing.T) {
	for _, n := range []int{10, 11, 15, 16, 17, 31, 32, 33, 62, 63, 64, 65, 127, 128, 255, 256, 257, 264, 1000, 1 << 16} {
		checkState(t, make([]bool, n), 0)
		checkState(t, slices.Repeat([]bool{true}, n), 0)
		for _, i := range []int{0, 1, 7, 8, n - 1} {
			l := make([]bool, n)
			l[i] = true
			checkState(t, l, 0)
		}
	}
}

// P18.1: the inputs for a single state lead back to it.
func TestStateOfInputs(t *testing.T) {
	for states := 2; states <= 8; states++ {
		for s := range states {
			l, e := lower.Inputs(constant(states, 1, 0), []int{s})
			if e != 0 || len(l) != widthOf(states) || lower.State(l) != s {
				t.Errorf("of %d states, the state %d has the inputs %v with the error %d, and leads to %d", states, s, l, e, lower.State(l))
			}
		}
	}
}
