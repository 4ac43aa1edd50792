package pattern_test

import (
	"math"
	"math/rand"
	"testing"

	"cellular/api"
	"cellular/pattern"
)

// checkShift compares Shift with the model, moves the result back, and examines whether the list is as before.
func checkShift(t *testing.T, p api.Pattern, dx, dy int) {
	t.Helper()
	want, wantError := shiftModel(p, dx, dy)
	unchanged(t, p, func(l []api.Cell) {
		got, e := pattern.Shift(l, dx, dy)
		checkPattern(t, got, e, want, wantError)
		if e == api.OK {
			back, e := pattern.Shift(got, -dx, -dy)
			checkPattern(t, back, e, p, api.OK)
		}
	})
}

// P5.3
func TestShiftExamples(t *testing.T) {
	p := api.Pattern{{X: 4, Y: -1, S: 1}, {X: 2, Y: 3, S: 6}}
	for _, c := range []struct {
		dx, dy int
		want   api.Pattern
	}{
		{0, 0, p},
		{-2, 1, api.Pattern{{X: 2, S: 1}, {Y: 4, S: 6}}},
		{1, 0, api.Pattern{{X: 5, Y: -1, S: 1}, {X: 3, Y: 3, S: 6}}},
		{0, -1, api.Pattern{{X: 4, Y: -2, S: 1}, {X: 2, Y: 2, S: 6}}},
		{most - 4, most - 3, api.Pattern{{X: most, Y: most - 4, S: 1}, {X: most - 2, Y: most, S: 6}}},
		{-most - 2, 1 - most, api.Pattern{{X: 2 - most, Y: -most, S: 1}, {X: -most, Y: 4 - most, S: 6}}},
	} {
		got, e := pattern.Shift(p, c.dx, c.dy)
		checkPattern(t, got, e, c.want, api.OK)
		checkShift(t, p, c.dx, c.dy)
	}
}

// P5.3: displacements that move a cell just over a limit, and the other cells not.
func TestShiftOverLimits(t *testing.T) {
	p := api.Pattern{{X: 4, Y: -1, S: 1}, {X: 2, Y: 3, S: 6}}
	for _, d := range []api.Point{
		{X: most - 3}, {X: -most - 3}, {Y: most - 2}, {Y: -most}, {X: most - 3, Y: most - 3}, {X: most - 4, Y: most - 2},
		{X: -most - 3, Y: 1 - most}, {X: -most - 2, Y: -most}, {X: shift}, {Y: shift}, {X: -shift}, {Y: -shift},
	} {
		got, e := pattern.Shift(p, d.X, d.Y)
		checkPattern(t, got, e, nil, api.ErrRange)
		checkShift(t, p, d.X, d.Y)
	}
	got, e := pattern.Shift(api.Pattern{{X: 1048576, S: 1}}, 1, 0)
	checkPattern(t, got, e, nil, api.ErrRange)
}

// P5.3: the greatest displacements move from one limit to the other.
func TestShiftFromLimitToLimit(t *testing.T) {
	corners := []int{-most, most}
	for _, x := range corners {
		for _, y := range corners {
			got, e := pattern.Shift(api.Pattern{{X: x, Y: y, S: 3}}, -2*x, -2*y)
			checkPattern(t, got, e, api.Pattern{{X: -x, Y: -y, S: 3}}, api.OK)
			for _, dx := range []int{-2*x - 1, -2 * x, -2*x + 1} {
				for _, dy := range []int{-2*y - 1, -2 * y, -2*y + 1} {
					checkShift(t, api.Pattern{{X: x, Y: y, S: 3}}, dx, dy)
				}
			}
		}
	}
}

// P5.3
func TestShiftAllInts(t *testing.T) {
	list := append(somePatterns(), api.Pattern{{X: -most, S: 1}}, api.Pattern{{X: most, S: 1}}, api.Pattern{{Y: most, S: 1}})
	for _, p := range list {
		for _, dx := range shifts {
			for _, dy := range shifts {
				checkShift(t, p, dx, dy)
			}
		}
	}
}

// P5.3: the displacement counts also for the empty pattern, of which no cell is moved.
func TestShiftEmpty(t *testing.T) {
	for _, p := range []api.Pattern{nil, {}} {
		for _, d := range []int{math.MinInt, -shift - 1, shift + 1, math.MaxInt} {
			for _, at := range []api.Point{{X: d}, {Y: d}, {X: d, Y: d}, {X: d, Y: shift}, {X: -shift, Y: d}} {
				got, e := pattern.Shift(p, at.X, at.Y)
				checkPattern(t, got, e, nil, api.ErrRange)
			}
		}
		for _, d := range []int{-shift, 0, shift} {
			got, e := pattern.Shift(p, d, -d)
			checkPattern(t, got, e, nil, api.OK)
		}
	}
}

// P5.3: ErrArg comes first, whatever else would be wrong.
func TestShiftOfWrongLists(t *testing.T) {
	for _, l := range wrongLists() {
		for _, d := range []int{0, 1, most, -shift, shift + 1, math.MinInt, math.MaxInt} {
			unchanged(t, l, func(l []api.Cell) {
				got, e := pattern.Shift(l, d, 0)
				checkPattern(t, got, e, nil, api.ErrArg)
				got, e = pattern.Shift(l, 0, d)
				checkPattern(t, got, e, nil, api.ErrArg)
			})
		}
	}
}

// P5.3
func TestShiftRandom(t *testing.T) {
	rng := rand.New(rand.NewSource(65))
	for round := range 2000 {
		p := nearPattern(rng, 20)
		size := []int{5, most, shift + 5}[round%3]
		checkShift(t, p, rng.Intn(2*size+1)-size, rng.Intn(2*size+1)-size)
		checkShift(t, p, most-5+rng.Intn(6), rng.Intn(6)+1-most)
	}
}
