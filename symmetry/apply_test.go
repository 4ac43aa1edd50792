package symmetry_test

import (
	"math"
	"testing"

	"cellular/api"
	"cellular/symmetry"
)

// P4.1
func TestApplyExamples(t *testing.T) {
	for _, c := range []struct {
		k       int
		p, want api.Point
	}{
		{1, api.Point{X: 1}, api.Point{Y: 1}},
		{4, api.Point{X: 1}, api.Point{X: -1}},
		{5, api.Point{X: 1}, api.Point{Y: -1}},
		{0, api.Point{X: 3, Y: 8}, api.Point{X: 3, Y: 8}},
		{1, api.Point{X: 3, Y: 8}, api.Point{X: -8, Y: 3}},
		{2, api.Point{X: 3, Y: 8}, api.Point{X: -3, Y: -8}},
		{3, api.Point{X: 3, Y: 8}, api.Point{X: 8, Y: -3}},
		{4, api.Point{X: 3, Y: 8}, api.Point{X: -3, Y: 8}},
		{5, api.Point{X: 3, Y: 8}, api.Point{X: -8, Y: -3}},
		{6, api.Point{X: 3, Y: 8}, api.Point{X: 3, Y: -8}},
		{7, api.Point{X: 3, Y: 8}, api.Point{X: 8, Y: 3}},
		{8, api.Point{X: 3, Y: 8}, api.Point{X: 3, Y: 8}},
		{-1, api.Point{X: 3, Y: 8}, api.Point{X: 8, Y: 3}},
		{-7, api.Point{X: 3, Y: 8}, api.Point{X: -8, Y: 3}},
		{math.MinInt, api.Point{X: 3, Y: 8}, api.Point{X: 3, Y: 8}},
		{math.MaxInt, api.Point{X: 3, Y: 8}, api.Point{X: 8, Y: 3}},
		{2, api.Point{X: math.MinInt, Y: math.MaxInt}, api.Point{X: math.MinInt, Y: -math.MaxInt}},
		{1, api.Point{X: math.MaxInt, Y: math.MinInt}, api.Point{X: math.MinInt, Y: math.MaxInt}},
	} {
		if got := symmetry.Apply(c.k, c.p); got != c.want {
			t.Errorf("Apply(%d, %v) is %v, not %v", c.k, c.p, got, c.want)
		}
	}
}

// everyCoord calls f for each position of which the coordinates are among those of coords.
func everyCoord(f func(p api.Point)) {
	for _, x := range coords {
		for _, y := range coords {
			f(api.Point{X: x, Y: y})
		}
	}
}

// P4.1
func TestApplyAllInts(t *testing.T) {
	for _, k := range numbers {
		everyCoord(func(p api.Point) {
			if got := symmetry.Apply(k, p); got != imageOf(k, p) {
				t.Errorf("Apply(%d, %v) is %v, not %v", k, p, got, imageOf(k, p))
			}
		})
	}
}

// P4.2
func TestComposeExamples(t *testing.T) {
	for _, c := range []struct{ a, b, want int }{
		{1, 4, 7}, {4, 1, 5}, {0, 6, 6}, {6, 0, 6}, {3, 3, 2}, {5, 5, 0}, {4, 6, 2}, {5, 7, 2}, {4, 5, 1}, {5, 4, 3},
		{9, -4, 7}, {math.MinInt, math.MaxInt, 7}, {math.MaxInt, math.MaxInt, 0}, {math.MinInt + 1, math.MinInt + 3, 0},
	} {
		if got := symmetry.Compose(c.a, c.b); got != c.want {
			t.Errorf("Compose(%d, %d) is %d, not %d", c.a, c.b, got, c.want)
		}
	}
}

// P4.2
func TestComposeAllNumbers(t *testing.T) {
	for _, a := range numbers {
		for _, b := range numbers {
			if got := symmetry.Compose(a, b); got != composed(a, b) {
				t.Errorf("Compose(%d, %d) is %d, not %d", a, b, got, composed(a, b))
			}
		}
	}
}

// P4.2
func TestInverse(t *testing.T) {
	for k, want := range []int{0, 3, 2, 1, 4, 5, 6, 7} {
		if got := symmetry.Inverse(k); got != want {
			t.Errorf("Inverse(%d) is %d, not %d", k, got, want)
		}
	}
	for _, k := range numbers {
		got := symmetry.Inverse(k)
		if got < 0 || got > 7 || symmetry.Compose(k, got) != 0 || symmetry.Compose(got, k) != 0 || composed(k, got) != 0 {
			t.Errorf("Inverse(%d) is %d", k, got)
		}
	}
}

// P4.7
func TestAction(t *testing.T) {
	for _, a := range numbers {
		for _, b := range numbers {
			both := symmetry.Compose(a, b)
			everyCoord(func(p api.Point) {
				step, once := symmetry.Apply(b, symmetry.Apply(a, p)), symmetry.Apply(both, p)
				if step != once {
					t.Errorf("%d and then %d map %v to %v, but Compose of them to %v", a, b, p, step, once)
				}
			})
		}
	}
}

// P4.7
func TestActionOfInverse(t *testing.T) {
	for _, k := range numbers {
		everyCoord(func(p api.Point) {
			if back := symmetry.Apply(symmetry.Inverse(k), symmetry.Apply(k, p)); back != p {
				t.Errorf("the inverse of %d maps the image of %v to %v", k, p, back)
			}
		})
	}
}
