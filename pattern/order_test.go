package pattern_test

import (
	"math"
	"math/rand"
	"slices"
	"testing"

	"cellular/api"
	"cellular/pattern"
)

// ascending are lists in the order that Compare has to give them: by Y, then by X, then by S, of the first cells that differ, and
// a list that is the beginning of another one before it.
var ascending = []api.Pattern{
	nil,
	{{X: math.MinInt, Y: math.MinInt, S: math.MinInt}},
	{{X: math.MaxInt, Y: math.MinInt, S: math.MaxInt}},
	{{X: 9, Y: -1, S: 7}},
	{{X: 9, Y: -1, S: 7}, {X: -9, S: 7}},
	{{X: -1, S: 7}},
	{{S: math.MinInt}},
	{{S: -1}},
	{{}},
	{{}, {}},
	{{S: 1}},
	{{S: 1}, {S: 1}},
	{{S: 1}, {S: 2}},
	{{S: 1}, {X: 1, S: 1}},
	{{S: 1}, {X: 1, S: 1}, {S: 1}},
	{{S: 1}, {X: 1, S: 1}, {X: 2, S: 1}},
	{{S: 1}, {X: 1, S: 2}},
	{{S: 1}, {X: -3, Y: 1, S: 1}},
	{{S: 2}},
	{{S: 7}},
	{{S: 8}},
	{{S: math.MaxInt}},
	{{X: 1, S: 1}},
	{{X: 1, S: 1}, {S: 1}},
	{{X: math.MaxInt, S: 1}},
	{{X: math.MinInt, Y: 1, S: 1}},
	{{X: -1, Y: 1, S: 1}},
	{{Y: math.MaxInt, S: math.MinInt}},
	{{X: math.MaxInt, Y: math.MaxInt, S: math.MaxInt}},
}

// checkOrder compares Compare and Same of two lists, both ways, with the expected order.
func checkOrder(t *testing.T, a, b api.Pattern, want int) {
	t.Helper()
	if got, back := pattern.Compare(a, b), pattern.Compare(b, a); got != want || back != -want {
		t.Errorf("Compare(%v, %v) is %d, not %d, and the other way %d", short(a), short(b), got, want, back)
	}
	if got, back := pattern.Same(a, b), pattern.Same(b, a); got != (want == 0) || back != got {
		t.Errorf("Same(%v, %v) is %v, and the other way %v", short(a), short(b), got, back)
	}
}

// P5.1
func TestCompareExamples(t *testing.T) {
	checkOrder(t, api.Pattern{{S: 1}}, api.Pattern{{S: 1}, {X: 1, S: 1}}, -1)
	for i, a := range ascending {
		for k, b := range ascending {
			want := 0
			if i < k {
				want = -1
			} else if i > k {
				want = 1
			}
			checkOrder(t, a, slices.Clone(b), want)
		}
	}
}

// P5.1: the empty list is the same, however it is made.
func TestCompareEmpty(t *testing.T) {
	for _, a := range []api.Pattern{nil, {}, row(0, 0, 3)[:0]} {
		for _, b := range []api.Pattern{nil, {}, row(0, 0, 3)[3:]} {
			checkOrder(t, a, b, 0)
		}
		checkOrder(t, a, api.Pattern{{X: math.MinInt, Y: math.MinInt, S: math.MinInt}}, -1)
	}
}

// P5.1: one value differs, in one cell of a list.
func TestCompareOneDifference(t *testing.T) {
	a := block(-2, -2, 4, 3)
	for i := range a {
		for _, d := range []int{-1, 1} {
			for _, change := range []api.Cell{{X: d}, {Y: d}, {S: d}} {
				b := slices.Clone(a)
				b[i] = api.Cell{X: a[i].X + change.X, Y: a[i].Y + change.Y, S: a[i].S + change.S}
				checkOrder(t, a, b, -d)
			}
		}
	}
}

// P5.1: lists of which one is the beginning of the other, also of more cells than a pattern has.
func TestCompareBeginnings(t *testing.T) {
	long := row(-5, 3, full+2)
	for _, n := range []int{0, 1, 2, 100, full - 1, full, full + 1} {
		checkOrder(t, long[:n], long, -1)
		checkOrder(t, long[:n], slices.Clone(long[:n]), 0)
		checkOrder(t, long[:n], append(slices.Clone(long[:n]), api.Cell{X: math.MinInt, Y: math.MinInt, S: math.MinInt}), -1)
	}
	last := slices.Clone(long)
	last[full+1].S = 2
	checkOrder(t, long, last, -1)
}

// P5.1: any lists.
func TestCompareRandom(t *testing.T) {
	rng := rand.New(rand.NewSource(56))
	list := someLists(rng, 120)
	for _, a := range list {
		for _, b := range list {
			checkOrder(t, a, b, slices.Compare(sequence(a), sequence(b)))
		}
	}
}

// P5.5: the patterns that are less are the same for all that are equal, and those less than these are less, too.
func TestCompareIsTotal(t *testing.T) {
	rng := rand.New(rand.NewSource(57))
	var list []api.Pattern
	for range 70 {
		list = append(list, nearPattern(rng, 3))
	}
	list = append(list, somePatterns()...)
	for _, a := range list {
		for _, b := range list {
			ab := pattern.Compare(a, b)
			if ab < -1 || ab > 1 || ab != -pattern.Compare(b, a) || (ab == 0) != slices.Equal(a, b) {
				t.Fatalf("Compare(%v, %v) is %d", short(a), short(b), ab)
			}
			for _, c := range list {
				if ab <= 0 && pattern.Compare(b, c) <= 0 && pattern.Compare(a, c) > 0 {
					t.Fatalf("the order goes from %v to %v to %v and back", short(a), short(b), short(c))
				}
			}
		}
	}
}

// P5.5: patterns are sorted in one way only.
func TestCompareSorts(t *testing.T) {
	rng := rand.New(rand.NewSource(58))
	for range 20 {
		var list []api.Pattern
		for range 60 {
			list = append(list, nearPattern(rng, 4))
		}
		other := slices.Clone(list)
		rng.Shuffle(len(other), func(i, k int) { other[i], other[k] = other[k], other[i] })
		slices.SortFunc(list, pattern.Compare)
		slices.SortFunc(other, pattern.Compare)
		for i := range list {
			if !slices.Equal(list[i], other[i]) {
				t.Fatalf("the pattern %d is %v, or %v", i, list[i], other[i])
			}
		}
	}
}

// P5.5: moving both patterns changes nothing.
func TestCompareMoved(t *testing.T) {
	rng := rand.New(rand.NewSource(59))
	steps := []api.Point{{X: 1}, {X: -1}, {Y: 1}, {Y: -1}, {X: -17, Y: 30}, {X: most - 10, Y: 10 - most}, {X: 10 - most, Y: most - 10}}
	for range 1500 {
		a, b := nearPattern(rng, 4), nearPattern(rng, 4)
		if rng.Intn(3) == 0 {
			b = append(slices.Clone(a), api.Cell{X: 5, Y: 5, S: 1})
		}
		for _, d := range steps {
			moved, e := pattern.Shift(a, d.X, d.Y)
			other, f := pattern.Shift(b, d.X, d.Y)
			if e != api.OK || f != api.OK {
				t.Fatalf("%v and %v moved by %v are the errors %d and %d", a, b, d, e, f)
			}
			if got := pattern.Compare(moved, other); got != pattern.Compare(a, b) {
				t.Errorf("Compare(%v, %v) is %d after both were moved by %v", a, b, got, d)
			}
			if got := pattern.Same(moved, other); got != pattern.Same(a, b) {
				t.Errorf("Same(%v, %v) is %v after both were moved by %v", a, b, got, d)
			}
		}
	}
}
