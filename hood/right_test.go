package hood_test

import (
	"math"
	"math/rand"
	"slices"
	"testing"

	"cellular/api"
	"cellular/hood"
)

// P7.1
func TestRightExamples(t *testing.T) {
	for _, l := range [][]api.Point{
		{{}}, {{X: 1}}, {{X: -2, Y: -2}}, {{X: 2, Y: 2}}, {{X: 2, Y: -2}}, {{X: -2, Y: 2}}, {{X: -2, Y: -2}, {X: 2, Y: 2}},
		{{X: -1}, {}, {X: 1}}, {{Y: -1}, {}, {Y: 1}}, {{X: 2, Y: -1}, {X: -2}}, {{X: -2, Y: 1}, {X: -1, Y: 1}, {X: 2, Y: 1}}, everyOffset(),
		everyOffset()[1:], everyOffset()[:24],
	} {
		if !hood.Right(l) {
			t.Errorf("the neighbourhood %v is valid", l)
		}
	}
	for _, l := range wrongLists() {
		if hood.Right(l) {
			t.Errorf("the list of %d offsets %v is not valid", len(l), short(l))
		}
	}
}

// P7.1
func TestRightOfSomeHoods(t *testing.T) {
	for _, l := range someHoods() {
		if !hood.Right(l) {
			t.Errorf("the neighbourhood %v is valid", l)
		}
		if back := slices.Clone(l); len(l) > 1 {
			slices.Reverse(back)
			if hood.Right(back) {
				t.Errorf("the list %v is not valid", back)
			}
		}
	}
}

// P7.1
func TestRightSingleOffsets(t *testing.T) {
	for _, x := range coords {
		for _, y := range coords {
			want := x >= -2 && x <= 2 && y >= -2 && y <= 2
			if got := hood.Right([]api.Point{{X: x, Y: y}}); got != want {
				t.Errorf("Right of (%d, %d) is %v", x, y, got)
			}
		}
	}
}

// P7.1: two offsets in all orders, each of them within the greatest radius or not.
func TestRightPairs(t *testing.T) {
	for i := range 49 {
		for k := range 49 {
			l := []api.Point{{X: i%7 - 3, Y: i/7 - 3}, {X: k%7 - 3, Y: k/7 - 3}}
			if got := hood.Right(l); got != isHood(l) {
				t.Errorf("Right(%v) is %v", l, got)
			}
		}
	}
	for _, p := range everyOffset() {
		for _, x := range coords {
			for _, y := range coords {
				for _, l := range [][]api.Point{{p, {X: x, Y: y}}, {{X: x, Y: y}, p}} {
					if got := hood.Right(l); got != isHood(l) {
						t.Errorf("Right(%v) is %v", l, got)
					}
				}
			}
		}
	}
}

// P7.1: an offset that is exchanged or not valid counts wherever it is in the list.
func TestRightChangedHoods(t *testing.T) {
	every := everyOffset()
	for i := range every {
		for k := range every {
			l := slices.Clone(every)
			l[i], l[k] = l[k], l[i]
			if got := hood.Right(l); got != (i == k) {
				t.Errorf("Right(%v) is %v", l, got)
			}
			l = slices.Clone(every)
			l[i] = every[k]
			if got := hood.Right(l); got != (i == k) {
				t.Errorf("Right(%v) is %v", l, got)
			}
		}
		for _, c := range []int{-beyond, beyond, math.MinInt, math.MaxInt} {
			for _, p := range []api.Point{{X: c, Y: every[i].Y}, {X: every[i].X, Y: c}} {
				l := slices.Clone(every)
				l[i] = p
				if hood.Right(l) {
					t.Errorf("the list %v is not valid", l)
				}
			}
		}
	}
}

// P7.1
func TestRightRandom(t *testing.T) {
	rng := rand.New(rand.NewSource(71))
	for _, l := range someLists(rng, 20000) {
		if got := hood.Right(l); got != isHood(l) {
			t.Errorf("Right(%v) is %v", l, got)
		}
	}
}

// P7.5
func TestSameExamples(t *testing.T) {
	few := []api.Point{{X: 1, Y: 2}, {X: 3, Y: 4}, {X: 5, Y: 6}}
	for _, c := range []struct {
		a, b []api.Point
		want bool
	}{
		{nil, nil, true},
		{nil, []api.Point{}, true},
		{[]api.Point{}, nil, true},
		{nil, []api.Point{{}}, false},
		{[]api.Point{{}}, []api.Point{{}}, true},
		{[]api.Point{{}}, []api.Point{{}, {}}, false},
		{[]api.Point{{}, {}}, []api.Point{{}, {}}, true},
		{few, few, true},
		{few, slices.Clone(few), true},
		{few[:2], few, false},
		{few[1:], few, false},
		{few[:0], nil, true},
		{few[:2], few[1:], false},
		{[]api.Point{{X: 1}, {}}, []api.Point{{}, {X: 1}}, false},
		{few, []api.Point{few[1], few[0], few[2]}, false},
		{few, []api.Point{few[2], few[1], few[0]}, false},
		{few, []api.Point{few[0], few[2], few[1]}, false},
		{[]api.Point{{X: 1, Y: 2}}, []api.Point{{X: 2, Y: 1}}, false},
		{[]api.Point{{X: 1, Y: 2}}, []api.Point{{X: 1, Y: -2}}, false},
		{[]api.Point{{X: 1, Y: 2}}, []api.Point{{X: -1, Y: 2}}, false},
		{[]api.Point{{X: 9}, {}}, []api.Point{{X: 9}, {}}, true},
		{[]api.Point{{X: 9}, {}}, []api.Point{{X: 9}, {X: 1}}, false},
		{[]api.Point{{X: math.MinInt, Y: math.MaxInt}}, []api.Point{{X: math.MinInt, Y: math.MaxInt}}, true},
		{[]api.Point{{X: math.MinInt, Y: math.MaxInt}}, []api.Point{{X: math.MaxInt, Y: math.MinInt}}, false},
		{[]api.Point{{X: math.MinInt}}, []api.Point{{X: math.MaxInt}}, false},
		{[]api.Point{{X: math.MinInt}}, []api.Point{{}}, false},
		{[]api.Point{{Y: math.MaxInt}}, []api.Point{{Y: math.MaxInt - 1}}, false},
		{[]api.Point{{X: 1 << 32}}, []api.Point{{}}, false},
		{make([]api.Point, 100000), make([]api.Point, 100000), true},
		{make([]api.Point, 100000), make([]api.Point, 99999), false},
	} {
		checkSame(t, c.a, c.b, c.want)
		checkSame(t, c.b, c.a, c.want)
	}
}

// P7.5: lists of all kinds with each other.
func TestSameOfSomeLists(t *testing.T) {
	rng := rand.New(rand.NewSource(75))
	list := slices.Concat(wrongLists(), someLists(rng, 200), someHoods()[:200], [][]api.Point{everyOffset(), everyOffset()[:24]})
	for _, a := range list {
		checkSame(t, a, slices.Clone(a), true)
		for _, b := range list {
			checkSame(t, a, b, sameModel(a, b))
		}
	}
}

// P7.5: an offset that is different counts wherever it is.
func TestSameChangedHoods(t *testing.T) {
	every := everyOffset()
	for i := range every {
		for _, c := range coords {
			for _, p := range []api.Point{{X: c, Y: every[i].Y}, {X: every[i].X, Y: c}} {
				l := slices.Clone(every)
				l[i] = p
				checkSame(t, l, every, p == every[i])
				checkSame(t, every, l, p == every[i])
			}
		}
	}
}

// checkSame compares Same with what is expected.
func checkSame(t *testing.T, a, b []api.Point, want bool) {
	t.Helper()
	unchanged(t, a, func(a []api.Point) {
		if got := hood.Same(a, b); got != want {
			t.Errorf("Same(%v, %v) is %v", short(a), short(b), got)
		}
	})
}
