package grid_test

import (
	"math"
	"math/rand"
	"slices"
	"testing"

	"cellular/api"
	"cellular/grid"
)

// checkRoll compares Roll of a valid torus with the model.
func checkRoll(t *testing.T, g api.Grid, dx, dy int) {
	t.Helper()
	got, e := grid.Roll(g, dx, dy)
	if want := rollModel(g, dx, dy); !sameGrid(got, want) || e != api.OK {
		t.Errorf("Roll(%v, %d, %d) is %v with the error %d, not %v", short(g), dx, dy, short(got), e, short(want))
	}
}

// P21.7
func TestRollExamples(t *testing.T) {
	row := api.Grid{W: 3, H: 1, Edge: api.EdgeTorus, Cells: []int{1, 2, 0}}
	both := api.Grid{W: 3, H: 2, Edge: api.EdgeTorus, Cells: []int{1, 2, 3, 4, 5, 6}}
	tall := api.Grid{W: 2, H: 3, Edge: api.EdgeTorus, Cells: []int{1, 2, 3, 4, 5, 6}}
	for _, c := range []struct {
		g      api.Grid
		dx, dy int
		want   []int
	}{
		{row, 1, 0, []int{0, 1, 2}}, {row, 2, 0, []int{2, 0, 1}}, {row, -1, 0, []int{2, 0, 1}}, {row, -2, 0, []int{0, 1, 2}}, {row, 3, 0, row.Cells},
		{row, 0, 1, row.Cells}, {row, 1, -7, []int{0, 1, 2}}, {row, 0, 0, row.Cells},
		{both, 0, 0, both.Cells}, {both, 1, 0, []int{3, 1, 2, 6, 4, 5}}, {both, -1, 0, []int{2, 3, 1, 5, 6, 4}}, {both, 0, 1, []int{4, 5, 6, 1, 2, 3}},
		{both, 0, -1, []int{4, 5, 6, 1, 2, 3}}, {both, 1, 1, []int{6, 4, 5, 3, 1, 2}}, {both, -1, 1, []int{5, 6, 4, 2, 3, 1}}, {both, 3, 2, both.Cells},
		{both, -3, -2, both.Cells}, {both, 300, -400, both.Cells}, {both, 4, -3, []int{6, 4, 5, 3, 1, 2}},
		{tall, 1, 0, []int{2, 1, 4, 3, 6, 5}}, {tall, 0, 1, []int{5, 6, 1, 2, 3, 4}}, {tall, 0, -1, []int{3, 4, 5, 6, 1, 2}}, {tall, -1, 2, []int{4, 3, 6, 5, 2, 1}},
		// -2^63 has the remainder 1 modulo 3 and 0 modulo 2, and 2^63 - 1 has the remainder 1 in both cases.
		{both, math.MinInt, 0, []int{3, 1, 2, 6, 4, 5}}, {both, 0, math.MinInt, both.Cells}, {both, math.MaxInt, 0, []int{3, 1, 2, 6, 4, 5}},
		{both, 0, math.MaxInt, []int{4, 5, 6, 1, 2, 3}}, {tall, 0, math.MinInt, []int{5, 6, 1, 2, 3, 4}}, {tall, math.MinInt, 0, tall.Cells},
	} {
		want := c.g
		want.Cells = slices.Clone(c.want)
		got, e := grid.Roll(c.g, c.dx, c.dy)
		checkGrid(t, "Roll", got, e, want, api.OK)
	}
}

// P21.7: all moves of small grids up to three times their size, in both directions.
func TestRollSmall(t *testing.T) {
	for w := 1; w <= 4; w++ {
		for h := 1; h <= 4; h++ {
			g := varied(w, h, api.EdgeTorus)
			for dx := -3*w - 1; dx <= 3*w+1; dx++ {
				for dy := -3*h - 1; dy <= 3*h+1; dy++ {
					checkRoll(t, g, dx, dy)
				}
			}
		}
	}
}

// P21.7: each cell alone.
func TestRollOfSingleCells(t *testing.T) {
	for _, c := range []size{{1, 1}, {4, 1}, {1, 4}, {3, 2}, {5, 3}} {
		for i := range c.w * c.h {
			g := zeros(c.w, c.h, api.EdgeTorus)
			g.Cells[i] = 1 + i%7
			for dx := -c.w; dx <= c.w; dx++ {
				for dy := -c.h; dy <= c.h; dy++ {
					checkRoll(t, g, dx, dy)
				}
			}
		}
	}
}

// P21.7: any ints.
func TestRollAnyInts(t *testing.T) {
	for _, c := range []size{{1, 1}, {1, 5}, {5, 1}, {3, 2}, {2, 3}, {4, 4}, {7, 6}} {
		g := varied(c.w, c.h, api.EdgeTorus)
		for _, dx := range ints {
			for _, dy := range ints {
				checkRoll(t, g, dx, dy)
			}
		}
	}
}

// P21.7: the greatest grids.
func TestRollGreatest(t *testing.T) {
	for _, c := range greatest {
		g := varied(c.w, c.h, api.EdgeTorus)
		for i, n := range []int{0, 1, -1, c.w - 1, c.w, c.h, c.h + 1, -c.w, 255, 256, 257, math.MinInt, math.MinInt + 1, math.MaxInt} {
			checkRoll(t, g, n, 0)
			checkRoll(t, g, 0, n)
			checkRoll(t, g, n, ints[(i*17+5)%len(ints)])
		}
	}
}

// P21.7
func TestRollRandom(t *testing.T) {
	manyGrids(217, 60, func(rng *rand.Rand, g api.Grid) {
		g.Edge = api.EdgeTorus
		checkRoll(t, g, anyInt(rng), anyInt(rng))
		checkRoll(t, g, rng.Intn(2*g.W+1)-g.W, rng.Intn(2*g.H+1)-g.H)
	})
}

// P21.7: the other kinds of edges, and grids that are not valid, also those with EdgeTorus.
func TestRollErrors(t *testing.T) {
	moves := []api.Point{{}, {X: 1}, {Y: 1}, {X: -1, Y: 2}, {X: math.MinInt, Y: math.MaxInt}, {X: math.MaxInt, Y: math.MinInt}}
	for _, edge := range []int{api.EdgeDead, api.EdgeFold} {
		for _, c := range someSizes() {
			for _, d := range moves {
				got, e := grid.Roll(varied(c.w, c.h, edge), d.X, d.Y)
				checkGrid(t, "Roll without a torus", got, e, api.Grid{}, api.ErrArg)
				got, e = grid.Roll(varied(c.w, c.h, edge), d.X*c.w, d.Y*c.h)
				checkGrid(t, "Roll without a torus", got, e, api.Grid{}, api.ErrArg)
			}
		}
	}
	for _, g := range wrongGrids() {
		for _, d := range moves {
			got, e := grid.Roll(g, d.X, d.Y)
			checkGrid(t, "Roll of a wrong grid", got, e, api.Grid{}, api.ErrArg)
			if g.Edge == api.EdgeDead {
				g.Edge = api.EdgeTorus
				got, e = grid.Roll(g, d.X, d.Y)
				checkGrid(t, "Roll of a wrong torus", got, e, api.Grid{}, api.ErrArg)
				g.Edge = api.EdgeDead
			}
		}
	}
}
