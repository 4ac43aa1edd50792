package symmetry_test

import (
	"math"
	"testing"

	"cellular/api"
	"cellular/symmetry"
)

// P4.3
func TestTurnExamples(t *testing.T) {
	wide := api.Box{X: 2, Y: -1, W: 3, H: 2}
	for _, c := range []struct {
		k       int
		b, want api.Box
	}{
		{1, api.Box{W: 3, H: 2}, api.Box{X: -1, W: 2, H: 3}},
		{0, wide, wide},
		{1, wide, api.Box{X: 0, Y: 2, W: 2, H: 3}},
		{2, wide, api.Box{X: -4, Y: 0, W: 3, H: 2}},
		{3, wide, api.Box{X: -1, Y: -4, W: 2, H: 3}},
		{4, wide, api.Box{X: -4, Y: -1, W: 3, H: 2}},
		{5, wide, api.Box{X: 0, Y: -4, W: 2, H: 3}},
		{6, wide, api.Box{X: 2, Y: 0, W: 3, H: 2}},
		{7, wide, api.Box{X: -1, Y: 2, W: 2, H: 3}},
		{-1, wide, api.Box{X: -1, Y: 2, W: 2, H: 3}},
		{math.MaxInt, wide, api.Box{X: -1, Y: 2, W: 2, H: 3}},
		{math.MinInt, wide, wide},
		{3, api.Box{X: most, Y: -most, W: 1, H: 2*most + 1}, api.Box{X: -most, Y: -most, W: 2*most + 1, H: 1}},
	} {
		if got := symmetry.Turn(c.k, c.b); got != c.want {
			t.Errorf("Turn(%d, %v) is %v, not %v", c.k, c.b, got, c.want)
		}
	}
}

// P4.3: the images are different, so a box with as many positions that contains all of them consists of them.
func TestTurnConsistsOfImages(t *testing.T) {
	for _, b := range smallBoxes() {
		for _, k := range numbers {
			got := symmetry.Turn(k, b)
			if got.W*got.H != b.W*b.H {
				t.Errorf("Turn(%d, %v) is %v", k, b, got)
			}
			for _, p := range positionsOf(b) {
				q := imageOf(k, p)
				if q.X < got.X || q.X >= got.X+got.W || q.Y < got.Y || q.Y >= got.Y+got.H {
					t.Errorf("Turn(%d, %v) is %v, without the image %v of %v", k, b, got, q, p)
				}
			}
		}
	}
}

// P4.3
func TestTurnAtLimits(t *testing.T) {
	for _, b := range limitBoxes {
		for _, k := range numbers {
			if got := symmetry.Turn(k, b); got != turnedBox(k, b) {
				t.Errorf("Turn(%d, %v) is %v, not %v", k, b, got, turnedBox(k, b))
			}
		}
	}
}

// P4.3
func TestTurnOfInvalidBoxes(t *testing.T) {
	for _, b := range invalidBoxes {
		for _, k := range numbers {
			if got := symmetry.Turn(k, b); got != (api.Box{}) {
				t.Errorf("Turn(%d, %v) is %v", k, b, got)
			}
		}
	}
}

// P4.5
func TestWithinExamples(t *testing.T) {
	wide := api.Box{X: 2, Y: -1, W: 3, H: 2}
	for _, c := range []struct {
		k       int
		b       api.Box
		p, want api.Point
	}{
		{1, api.Box{W: 3, H: 2}, api.Point{X: 2, Y: 1}, api.Point{X: 0, Y: 2}},
		{0, wide, api.Point{X: 2, Y: -1}, api.Point{}},
		{0, wide, api.Point{X: 4, Y: 0}, api.Point{X: 2, Y: 1}},
		{1, wide, api.Point{X: 4, Y: -1}, api.Point{X: 1, Y: 2}},
		{2, wide, api.Point{X: 4, Y: -1}, api.Point{X: 0, Y: 1}},
		{4, wide, api.Point{X: 4, Y: -1}, api.Point{X: 0, Y: 0}},
		{7, wide, api.Point{X: 4, Y: -1}, api.Point{X: 0, Y: 2}},
		{-1, wide, api.Point{X: 4, Y: -1}, api.Point{X: 0, Y: 2}},
		{0, wide, api.Point{}, api.Point{X: -2, Y: 1}},
		{2, wide, api.Point{X: -10, Y: 20}, api.Point{X: 14, Y: -20}},
		{2, api.Box{X: most, Y: most, W: 1, H: 1}, api.Point{X: -most, Y: -most}, api.Point{X: 2 * most, Y: 2 * most}},
	} {
		if got := symmetry.Within(c.k, c.b, c.p); got != c.want {
			t.Errorf("Within(%d, %v, %v) is %v, not %v", c.k, c.b, c.p, got, c.want)
		}
	}
}

// P4.5: the positions of the box, and those around it that are valid.
func TestWithinSmallBoxes(t *testing.T) {
	for _, b := range smallBoxes() {
		around := positionsOf(api.Box{X: b.X - 2, Y: b.Y - 2, W: b.W + 4, H: b.H + 4})
		for _, k := range numbers {
			for _, p := range around {
				checkWithin(t, k, b, p)
			}
		}
	}
}

// P4.5
func TestWithinMapsBoxToOrigin(t *testing.T) {
	for _, b := range smallBoxes() {
		for _, k := range numbers {
			turned := turnedBox(k, b)
			reached := map[api.Point]bool{}
			for _, p := range positionsOf(b) {
				q := symmetry.Within(k, b, p)
				if q.X < 0 || q.X >= turned.W || q.Y < 0 || q.Y >= turned.H {
					t.Errorf("Within(%d, %v, %v) is %v", k, b, p, q)
				}
				reached[q] = true
			}
			if len(reached) != b.W*b.H {
				t.Errorf("Within(%d, %v, ..) reaches %d positions", k, b, len(reached))
			}
		}
	}
}

// P4.5: boxes at the limits, with positions that are valid and some that are not.
func TestWithinAllInts(t *testing.T) {
	for _, b := range append(smallBoxes(), limitBoxes...) {
		for _, k := range numbers {
			everyCoord(func(p api.Point) { checkWithin(t, k, b, p) })
		}
	}
}

// checkWithin compares Within of a valid box with the model.
func checkWithin(t *testing.T, k int, b api.Box, p api.Point) {
	t.Helper()
	want := api.Point{}
	if -most <= p.X && p.X <= most && -most <= p.Y && p.Y <= most {
		image, turned := imageOf(k, p), turnedBox(k, b)
		want = api.Point{X: image.X - turned.X, Y: image.Y - turned.Y}
	}
	if got := symmetry.Within(k, b, p); got != want {
		t.Errorf("Within(%d, %v, %v) is %v, not %v", k, b, p, got, want)
	}
}

// P4.5
func TestWithinInvalidBoxes(t *testing.T) {
	for _, b := range invalidBoxes {
		for _, k := range numbers {
			for _, p := range []api.Point{{X: b.X, Y: b.Y}, {X: 1, Y: 1}, {X: -3, Y: 5}, {X: most, Y: -most}, {X: most + 1}} {
				if got := symmetry.Within(k, b, p); got != (api.Point{}) {
					t.Errorf("Within(%d, %v, %v) is %v", k, b, p, got)
				}
			}
		}
	}
}

// P4.5
func TestWithinInvalidPositions(t *testing.T) {
	b := api.Box{X: 2, Y: -1, W: 3, H: 2}
	for _, k := range numbers {
		for _, bad := range []int{most + 1, -most - 1, math.MaxInt, math.MinInt} {
			for _, p := range []api.Point{{X: bad, Y: 2}, {X: 2, Y: bad}, {X: bad, Y: bad}} {
				if got := symmetry.Within(k, b, p); got != (api.Point{}) {
					t.Errorf("Within(%d, %v, %v) is %v", k, b, p, got)
				}
			}
		}
	}
}
