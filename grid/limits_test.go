package grid_test

import (
	"testing"

	"cellular/api"
	"cellular/grid"
)

// The greatest grids: all calls for each of their cells, and Get at all positions around them up to their size.
func TestLimits(t *testing.T) {
	for i, c := range []size{{256, 16}, {16, 256}, {64, 64}} {
		edge := edges[i]
		g, e := grid.New(c.w, c.h, edge)
		checkGrid(t, "New", g, e, zeros(c.w, c.h, edge), api.OK)
		for _, cell := range block(0, 0, c.w, c.h) {
			g, e = grid.Set(g, cell.X, cell.Y, cell.S)
			if e != api.OK {
				t.Fatalf("Set of %v returns the error %d", cell, e)
			}
		}
		checkPattern(t, g, block(0, 0, c.w, c.h))
		whole, e := grid.From(block(0, 0, c.w, c.h), c.w, c.h, edge)
		checkGrid(t, "From", whole, e, g, api.OK)
		if !grid.Same(whole, g) || !grid.Right(g) {
			t.Errorf("the greatest grid with the edge %d is not valid, or not the same", edge)
		}
		columns, rows := map[int]int{}, map[int]int{}
		for x := -c.w; x < 2*c.w; x++ {
			columns[x] = cellAt(edge, c.w, x)
		}
		for y := -c.h; y < 2*c.h; y++ {
			rows[y] = cellAt(edge, c.h, y)
		}
		for x := -c.w; x < 2*c.w; x++ {
			for y := -c.h; y < 2*c.h; y++ {
				want := 0
				if columns[x] >= 0 && rows[y] >= 0 {
					want = g.Cells[rows[y]*c.w+columns[x]]
				}
				if s := grid.Get(g, x, y); s != want {
					t.Fatalf("the state at (%d, %d) of the greatest grid with the edge %d is %d, not %d", x, y, edge, s, want)
				}
			}
		}
	}
}

// Many moves of the greatest torus, which lead back to it.
func TestLimitRoll(t *testing.T) {
	for _, c := range []size{{256, 16}, {16, 256}, {64, 64}} {
		start := varied(c.w, c.h, api.EdgeTorus)
		g, e := start, api.OK
		for range c.w * c.h {
			if g, e = grid.Roll(g, 1, -1); e != api.OK {
				t.Fatalf("Roll returns the error %d", e)
			}
		}
		checkGrid(t, "Roll", g, e, start, api.OK)
	}
}
