package grid_test

import (
	"math"
	"math/rand"
	"slices"
	"testing"

	"cellular/api"
	"cellular/grid"
)

// checkGet compares Get of a valid grid with the model.
func checkGet(t *testing.T, g api.Grid, x, y int) {
	t.Helper()
	if got, want := grid.Get(g, x, y), getModel(g, x, y); got != want {
		t.Errorf("Get(%v, %d, %d) is %d, not %d", short(g), x, y, got, want)
	}
}

// P21.3: the chapter's examples, and rows written out.
func TestGetRows(t *testing.T) {
	g := api.Grid{W: 3, H: 1, Cells: []int{1, 2, 0}}
	for edge, want := range [][]int{{0, 0}, {0, 2}, {1, 2}} {
		g.Edge = edge
		for i, x := range []int{-1, 4} {
			if s := grid.Get(g, x, 0); s != want[i] {
				t.Errorf("with the edge %d, the state at %d is %d, not %d", edge, x, s, want[i])
			}
		}
	}
	row := api.Grid{W: 4, H: 1, Cells: []int{1, 2, 3, 4}}
	column := api.Grid{W: 1, H: 4, Cells: []int{1, 2, 3, 4}}
	for edge, want := range [][]int{
		{0, 0, 0, 0, 0, 0, 0, 0, 0, 1, 2, 3, 4, 0, 0, 0, 0, 0, 0, 0, 0, 0},
		{4, 1, 2, 3, 4, 1, 2, 3, 4, 1, 2, 3, 4, 1, 2, 3, 4, 1, 2, 3, 4, 1},
		{1, 1, 2, 3, 4, 4, 3, 2, 1, 1, 2, 3, 4, 4, 3, 2, 1, 1, 2, 3, 4, 4},
	} {
		row.Edge, column.Edge = edge, edge
		for i, s := range want {
			across, down := grid.Get(row, i-9, 0), grid.Get(column, 0, i-9)
			if across != s || down != s {
				t.Errorf("with the edge %d, the states at %d are %d and %d, not %d", edge, i-9, across, down, s)
			}
		}
	}
}

// P21.3: both coordinates outside, written out.
func TestGetDrawings(t *testing.T) {
	g := api.Grid{W: 3, H: 2, Cells: []int{1, 2, 3, 4, 5, 6}}
	for edge, rows := range [][]string{
		{"0000000", "0000000", "0012300", "0045600", "0000000", "0000000"},
		{"2312312", "5645645", "2312312", "5645645", "2312312", "5645645"},
		{"5445665", "2112332", "2112332", "5445665", "5445665", "2112332"},
	} {
		g.Edge = edge
		for y, row := range rows {
			for x, c := range row {
				if s := grid.Get(g, x-2, y-2); s != int(c-'0') {
					t.Errorf("with the edge %d, the state at (%d, %d) is %d, not %c", edge, x-2, y-2, s, c)
				}
			}
		}
	}
}

// P21.3: a grid of one cell.
func TestGetOfOneCell(t *testing.T) {
	for _, edge := range edges {
		g := api.Grid{W: 1, H: 1, Edge: edge, Cells: []int{5}}
		for _, x := range ints {
			for _, y := range ints {
				want := 5
				if edge == api.EdgeDead && (x != 0 || y != 0) {
					want = 0
				}
				if s := grid.Get(g, x, y); s != want {
					t.Errorf("with the edge %d, the state at (%d, %d) is %d, not %d", edge, x, y, s, want)
				}
			}
		}
	}
}

// P21.3: all positions inside of small grids and around them.
func TestGetSmall(t *testing.T) {
	for _, edge := range edges {
		for w := 1; w <= 5; w++ {
			for h := 1; h <= 5; h++ {
				g := varied(w, h, edge)
				for x := -2*w - 3; x <= 3*w+3; x++ {
					for y := -2*h - 3; y <= 3*h+3; y++ {
						checkGet(t, g, x, y)
					}
				}
			}
		}
	}
}

// P21.3: each cell alone, so that no other one can have its state.
func TestGetOfSingleCells(t *testing.T) {
	for _, edge := range edges {
		for _, c := range []size{{1, 1}, {4, 1}, {1, 4}, {3, 2}, {2, 5}} {
			for i := range c.w * c.h {
				g := zeros(c.w, c.h, edge)
				g.Cells[i] = 1 + i%7
				for x := -3 * c.w; x <= 3*c.w; x++ {
					for y := -3 * c.h; y <= 3*c.h; y++ {
						checkGet(t, g, x, y)
					}
				}
			}
		}
	}
}

// P21.3: positions at the limits of int, with grids of all sizes.
func TestGetAnyInts(t *testing.T) {
	for _, edge := range edges {
		for _, c := range someSizes() {
			g := varied(c.w, c.h, edge)
			for i, n := range ints {
				checkGet(t, g, n, c.h-1)
				checkGet(t, g, 0, n)
				checkGet(t, g, c.w, n)
				checkGet(t, g, n, ints[(i*7+3)%len(ints)])
			}
			for _, n := range []int{math.MinInt, math.MinInt + 1, math.MaxInt - 1, math.MaxInt} {
				for _, m := range []int{math.MinInt, math.MinInt + 1, -1, 0, 1, math.MaxInt - 1, math.MaxInt} {
					checkGet(t, g, n, m)
					checkGet(t, g, m, n)
				}
			}
		}
	}
	// -2^63 has the remainder 4 modulo 6, and 2^63 - 1 has the remainder 1.
	g := api.Grid{W: 3, H: 3, Edge: api.EdgeFold, Cells: []int{1, 2, 3, 4, 5, 6, 7, 0, 1}}
	if s := grid.Get(g, math.MinInt, math.MinInt); s != 5 {
		t.Errorf("the state at the least ints is %d", s)
	}
	if s := grid.Get(g, math.MaxInt, 0); s != 2 {
		t.Errorf("the state at the greatest int is %d", s)
	}
}

// P21.3: outside is 0 with EdgeDead, wherever it is.
func TestGetOutsideOfDead(t *testing.T) {
	for _, c := range someSizes() {
		g := api.Grid{W: c.w, H: c.h, Cells: ones(c.w * c.h)}
		for _, x := range ints {
			for _, y := range []int{math.MinInt, -1, 0, c.h - 1, c.h, math.MaxInt} {
				want := 0
				if 0 <= x && x < c.w && 0 <= y && y < c.h {
					want = 1
				}
				if s := grid.Get(g, x, y); s != want {
					t.Errorf("the state at (%d, %d) of a grid with the size %v is %d, not %d", x, y, c, s, want)
				}
			}
		}
	}
}

// P21.3
func TestGetRandom(t *testing.T) {
	manyGrids(213, 40, func(rng *rand.Rand, g api.Grid) {
		for range 20 {
			checkGet(t, g, anyInt(rng), anyInt(rng))
			checkGet(t, g, rng.Intn(g.W), anyInt(rng))
			checkGet(t, g, anyInt(rng), rng.Intn(g.H))
			checkGet(t, g, rng.Intn(g.W), rng.Intn(g.H))
		}
	})
}

// P21.3: a grid that is not valid.
func TestGetOfWrongGrids(t *testing.T) {
	for _, g := range wrongGrids() {
		for _, at := range []api.Point{{}, {X: 1}, {Y: 1}, {X: 2, Y: 2}, {X: -1, Y: -1}, {X: g.W, Y: g.H}, {X: math.MinInt, Y: math.MaxInt}, {X: math.MaxInt}} {
			if s := grid.Get(g, at.X, at.Y); s != 0 {
				t.Errorf("Get(%v, %d, %d), not of a valid grid, is %d", short(g), at.X, at.Y, s)
			}
		}
	}
}

// P21.4: each cell of a grid with each state, its own one included.
func TestSetCells(t *testing.T) {
	for _, edge := range edges {
		for _, c := range []size{{1, 1}, {3, 1}, {1, 3}, {3, 2}, {4, 5}, {9, 7}} {
			before, g := varied(c.w, c.h, edge), varied(c.w, c.h, edge)
			for y := range c.h {
				for x := range c.w {
					for s := range 8 {
						want := varied(c.w, c.h, edge)
						want.Cells[y*c.w+x] = s
						got, e := grid.Set(g, x, y, s)
						checkGrid(t, "Set", got, e, want, api.OK)
						if !sameGrid(g, before) {
							t.Fatalf("Set changes the grid to %v", g)
						}
					}
				}
			}
		}
	}
}

// P21.4: cells at the edges of the greatest grids.
func TestSetGreatest(t *testing.T) {
	for _, c := range greatest {
		g := varied(c.w, c.h, edges[c.w%3])
		for _, x := range []int{0, 1, c.w / 2, c.w - 2, c.w - 1} {
			for _, y := range []int{0, 1, c.h / 2, c.h - 2, c.h - 1} {
				want := varied(c.w, c.h, g.Edge)
				if x < 0 || y < 0 || x >= c.w || y >= c.h {
					got, e := grid.Set(g, x, y, 3)
					checkGrid(t, "Set", got, e, api.Grid{}, api.ErrRange)
					continue
				}
				want.Cells[y*c.w+x] = 7
				got, e := grid.Set(g, x, y, 7)
				checkGrid(t, "Set", got, e, want, api.OK)
			}
		}
	}
}

// P21.4: states that are not from 0 to MaxStates - 1.
func TestSetStates(t *testing.T) {
	for _, edge := range edges {
		for _, s := range ints {
			g := varied(3, 2, edge)
			got, e := grid.Set(g, 2, 1, s)
			if s < 0 || s > 7 {
				checkGrid(t, "Set", got, e, api.Grid{}, api.ErrState)
				continue
			}
			g.Cells[5] = s
			checkGrid(t, "Set", got, e, g, api.OK)
		}
	}
}

// P21.4: positions that are not those of cells, also where the edge leads from them to cells.
func TestSetPlaces(t *testing.T) {
	for _, edge := range edges {
		for _, c := range []size{{1, 1}, {3, 1}, {1, 3}, {3, 2}, {256, 16}, {16, 256}} {
			g := varied(c.w, c.h, edge)
			for _, n := range append(slices.Clone(ints), c.w, c.h, c.w-1, c.h-1, 2*c.w, 2*c.h) {
				for _, at := range []api.Point{{X: n}, {Y: n}, {X: n, Y: n}, {X: n, Y: c.h - 1}, {X: c.w - 1, Y: n}, {X: n, Y: c.h}, {X: c.w, Y: n}, {X: n, Y: -1}} {
					got, e := grid.Set(g, at.X, at.Y, 3)
					if at.X < 0 || at.X >= c.w || at.Y < 0 || at.Y >= c.h {
						checkGrid(t, "Set", got, e, api.Grid{}, api.ErrRange)
						continue
					}
					want := varied(c.w, c.h, edge)
					want.Cells[at.Y*c.w+at.X] = 3
					checkGrid(t, "Set", got, e, want, api.OK)
				}
			}
		}
	}
}

// P21.4: grids that are not valid, and each pair of errors.
func TestSetErrors(t *testing.T) {
	for _, g := range wrongGrids() {
		// The position of a cell, or of none, and a state, or none.
		for _, c := range []api.Cell{{S: 1}, {X: -1, S: 1}, {S: 8}, {X: -1, S: 8}, {X: math.MaxInt, Y: math.MinInt, S: -1}} {
			got, e := grid.Set(g, c.X, c.Y, c.S)
			checkGrid(t, "Set of a wrong grid", got, e, api.Grid{}, api.ErrArg)
		}
	}
	for _, edge := range edges {
		g := varied(3, 2, edge)
		for _, s := range ints {
			for _, n := range ints {
				if n < 0 || n > 2 {
					got, e := grid.Set(g, n, 1, s)
					checkGrid(t, "Set", got, e, api.Grid{}, api.ErrRange)
				}
				if n < 0 || n > 1 {
					got, e := grid.Set(g, 1, n, s)
					checkGrid(t, "Set", got, e, api.Grid{}, api.ErrRange)
				}
			}
		}
	}
}

// P21.3, P21.4: after Set, Get returns the new state of this cell and the old ones of all others.
func TestSetRandom(t *testing.T) {
	manyGrids(214, 30, func(rng *rand.Rand, g api.Grid) {
		x, y, s := rng.Intn(g.W), rng.Intn(g.H), rng.Intn(8)
		got, e := grid.Set(g, x, y, s)
		if e != api.OK {
			t.Fatalf("Set(%v, %d, %d, %d) returns the error %d", short(g), x, y, s, e)
		}
		for range 20 {
			column, row := rng.Intn(g.W), rng.Intn(g.H)
			want := g.Cells[row*g.W+column]
			if column == x && row == y {
				want = s
			}
			if state := grid.Get(got, column, row); state != want {
				t.Errorf("after Set(%v, %d, %d, %d), Get at (%d, %d) is %d", short(g), x, y, s, column, row, state)
			}
		}
		if state := grid.Get(got, x, y); state != s {
			t.Errorf("after Set(%v, %d, %d, %d), Get is %d", short(g), x, y, s, state)
		}
	})
}
