package grid_test

import (
	"math"
	"math/rand"
	"slices"
	"testing"

	"cellular/api"
	"cellular/grid"
	"cellular/pattern"
)

// checkRoundTrip checks that the pattern of a valid grid leads back to the grid.
func checkRoundTrip(t *testing.T, g api.Grid) {
	t.Helper()
	got, e := grid.From(grid.Pattern(g), g.W, g.H, g.Edge)
	checkGrid(t, "From of Pattern", got, e, g, api.OK)
	if !grid.Same(got, g) {
		t.Errorf("Same reports that From of Pattern of %v is another grid", short(g))
	}
}

// P21.9: From of Pattern.
func TestRoundTripOfGrids(t *testing.T) {
	for _, edge := range edges {
		for _, c := range someSizes() {
			checkRoundTrip(t, zeros(c.w, c.h, edge))
			checkRoundTrip(t, varied(c.w, c.h, edge))
			g := zeros(c.w, c.h, edge)
			for i := range g.Cells {
				g.Cells[i] = 1 + i%7
			}
			checkRoundTrip(t, g)
		}
	}
	manyGrids(218, 100, func(_ *rand.Rand, g api.Grid) { checkRoundTrip(t, g) })
}

// P21.9: Pattern of From.
func TestRoundTripOfPatterns(t *testing.T) {
	rng := rand.New(rand.NewSource(219))
	for _, edge := range edges {
		for states := 2; states <= api.MaxStates; states++ {
			for i := range 60 {
				c := size{1 + rng.Intn(12), 1 + rng.Intn(12)}
				if i%10 == 0 {
					c = greatest[rng.Intn(len(greatest))]
				}
				var l []api.Cell
				for range rng.Intn(c.w*c.h + 1) {
					l = append(l, api.Cell{X: rng.Intn(c.w), Y: rng.Intn(c.h), S: 1 + rng.Intn(states-1)})
				}
				// The first cell at each position.
				slices.SortStableFunc(l, func(a, b api.Cell) int { return (a.Y-b.Y)*side + a.X - b.X })
				p := api.Pattern(slices.CompactFunc(l, func(a, b api.Cell) bool { return a.X == b.X && a.Y == b.Y }))
				g, e := grid.From(p, c.w, c.h, edge)
				if got := grid.Pattern(g); e != api.OK || !pattern.Same(got, p) {
					t.Errorf("Pattern of From(%v) for the size %v is %v, with the error %d", shortPattern(p), c, shortPattern(got), e)
				}
			}
		}
	}
}

// checkPeriods checks the consequences for a position from which no side is out of the range of ints.
func checkPeriods(t *testing.T, g api.Grid, x, y int) {
	t.Helper()
	want := grid.Get(g, x, y)
	var equal []api.Point
	switch g.Edge {
	case api.EdgeTorus:
		equal = []api.Point{{X: x + g.W, Y: y}, {X: x, Y: y + g.H}, {X: x - g.W, Y: y}, {X: x, Y: y - g.H}, {X: x + 2*g.W, Y: y - 2*g.H}}
	case api.EdgeFold:
		equal = []api.Point{
			{X: x + 2*g.W, Y: y}, {X: x, Y: y + 2*g.H}, {X: x - 2*g.W, Y: y}, {X: x, Y: y - 2*g.H}, {X: -1 - x, Y: y}, {X: x, Y: -1 - y}, {X: -1 - x, Y: -1 - y},
		}
	}
	for _, at := range equal {
		if s := grid.Get(g, at.X, at.Y); s != want {
			t.Errorf("the states of %v at (%d, %d) and at %v are %d and %d", short(g), x, y, at, want, s)
		}
	}
}

// P21.10: positions inside, around and far outside.
func TestPeriods(t *testing.T) {
	const far = math.MaxInt - 2*side
	manyGrids(220, 60, func(rng *rand.Rand, g api.Grid) {
		place := func(n int) int {
			switch rng.Intn(5) {
			case 0:
				return rng.Intn(n)
			case 1:
				return rng.Intn(6*n) - 3*n
			case 2:
				return rng.Intn(1<<20) - 1<<19
			case 3:
				return max(-far, min(far, int(rng.Uint64())))
			}
			return []int{-far, far, 1 - far, far - 1, -1 << 32, 1 << 32}[rng.Intn(6)]
		}
		for range 20 {
			checkPeriods(t, g, place(g.W), place(g.H))
		}
	})
}

// P21.10: all positions inside of small grids and around them.
func TestPeriodsOfSmallGrids(t *testing.T) {
	for _, edge := range edges[1:] {
		for w := 1; w <= 4; w++ {
			for h := 1; h <= 4; h++ {
				g := varied(w, h, edge)
				for x := -2 * w; x <= 3*w; x++ {
					for y := -2 * h; y <= 3*h; y++ {
						checkPeriods(t, g, x, y)
					}
				}
			}
		}
	}
}

// P21.10: the mirrored position of each int is an int.
func TestMirror(t *testing.T) {
	for _, c := range someSizes() {
		g := varied(c.w, c.h, api.EdgeFold)
		for _, n := range ints {
			if a, b := grid.Get(g, n, 0), grid.Get(g, -1-n, 0); a != b {
				t.Errorf("the states of %v at (%d, 0) and (%d, 0) are %d and %d", short(g), n, -1-n, a, b)
			}
			if a, b := grid.Get(g, 0, n), grid.Get(g, 0, -1-n); a != b {
				t.Errorf("the states of %v at (0, %d) and (0, %d) are %d and %d", short(g), n, -1-n, a, b)
			}
		}
	}
}

// P21.10: Roll and back.
func TestRollBack(t *testing.T) {
	manyGrids(221, 80, func(rng *rand.Rand, g api.Grid) {
		g.Edge = api.EdgeTorus
		dx, dy := anyInt(rng), anyInt(rng)
		// The negative of the least int is not an int.
		if dx == math.MinInt || dy == math.MinInt {
			return
		}
		rolled, e := grid.Roll(g, dx, dy)
		if e != api.OK {
			t.Fatalf("Roll(%v, %d, %d) returns the error %d", short(g), dx, dy, e)
		}
		got, e := grid.Roll(rolled, -dx, -dy)
		checkGrid(t, "Roll and back", got, e, g, api.OK)
	})
}

// P21.3, P21.7: Roll as Get sees it.
func TestRollAndGet(t *testing.T) {
	manyGrids(222, 30, func(rng *rand.Rand, g api.Grid) {
		g.Edge = api.EdgeTorus
		dx, dy := rng.Intn(2001)-1000, rng.Intn(2001)-1000
		rolled, e := grid.Roll(g, dx, dy)
		for range 20 {
			x, y := rng.Intn(2001)-1000, rng.Intn(2001)-1000
			if a, b := grid.Get(rolled, x, y), grid.Get(g, x-dx, y-dy); a != b || e != api.OK {
				t.Errorf("rolled by (%d, %d), %v has the state %d at (%d, %d), not %d", dx, dy, short(g), a, x, y, b)
			}
		}
	})
}
