package grid_test

import (
	"math"
	"math/rand"
	"slices"
	"testing"

	"cellular/api"
	"cellular/grid"
	"cellular/pattern"
)

// block returns the cells of a box with different states in order.
func block(x, y, w, h int) api.Pattern {
	var p api.Pattern
	for i := range w * h {
		p = append(p, api.Cell{X: x + i%w, Y: y + i/w, S: 1 + i%7})
	}
	return p
}

// wrongPatterns are lists that are not valid patterns, though each position in most of them is that of a cell of every grid.
func wrongPatterns() []api.Pattern {
	l := []api.Pattern{
		{{}}, {{S: -1}}, {{S: 8}}, {{S: 9}}, {{S: math.MinInt}}, {{S: math.MaxInt}}, {{S: 1 << 32}}, {{S: 256 + 1}},
		{{S: 1}, {S: 1}}, {{S: 1}, {S: 2}}, {{S: 2}, {S: 1}}, {{S: 1}, {}},
		// In a wrong order.
		{{X: 1, S: 1}, {S: 1}}, {{Y: 1, S: 1}, {S: 1}}, {{X: -1, S: 1}, {X: -2, S: 1}}, {{Y: 1, S: 1}, {X: 1, S: 1}},
		// Beyond the limits.
		{{X: most + 1, S: 1}}, {{Y: most + 1, S: 1}}, {{X: -most - 1, S: 1}}, {{Y: -most - 1, S: 1}}, {{X: math.MinInt, S: 1}},
		{{X: math.MaxInt, S: 1}}, {{Y: math.MinInt, S: 1}}, {{Y: math.MaxInt, S: 1}}, {{X: 1 << 32, S: 1}},
		block(0, 0, api.MaxCells+1, 1), block(0, 0, 64, 79), block(0, 0, 128, 40),
		// The first cell, or the last one, is beside the grid.
		{{X: -1, S: 1}, {}}, {{X: -1, S: 1}, {S: 8}}, {{X: 300, S: 1}, {X: 300, S: 1}}, {{Y: -1, S: 1}, {S: 1}, {S: 1}}, {{}, {Y: 300, S: 1}},
	}
	return l
}

// checkFrom compares From of a valid pattern, for the size and the edge of a valid grid, with the model, and returns its results.
func checkFrom(t *testing.T, p api.Pattern, w, h, edge int) (api.Grid, api.Errno) {
	t.Helper()
	want, wanted := fromModel(p, w, h, edge)
	got, e := grid.From(p, w, h, edge)
	checkGrid(t, "From", got, e, want, wanted)
	return got, e
}

// P21.5
func TestFromExamples(t *testing.T) {
	for _, c := range []struct {
		p     api.Pattern
		w, h  int
		cells []int
		e     api.Errno
	}{
		{api.Pattern{{X: 3, S: 1}}, 3, 1, nil, api.ErrRange},
		{api.Pattern{{X: 2, S: 1}}, 3, 1, []int{0, 0, 1}, api.OK},
		{api.Pattern{{S: 1}, {X: 1, S: 2}}, 3, 1, []int{1, 2, 0}, api.OK},
		{api.Pattern{{X: 1, S: 7}, {Y: 1, S: 2}, {X: 1, Y: 1, S: 3}}, 2, 2, []int{0, 7, 2, 3}, api.OK},
		{nil, 2, 1, []int{0, 0}, api.OK},
		{api.Pattern{}, 1, 1, []int{0}, api.OK},
		{api.Pattern{{S: 4}}, 1, 1, []int{4}, api.OK},
	} {
		for _, edge := range edges {
			want := api.Grid{W: c.w, H: c.h, Edge: edge, Cells: c.cells}
			if c.e != api.OK {
				want = api.Grid{}
			}
			got, e := grid.From(c.p, c.w, c.h, edge)
			checkGrid(t, "From", got, e, want, c.e)
		}
	}
}

// P21.5: the empty pattern, and patterns that fill the grid.
func TestFromEmptyAndFull(t *testing.T) {
	for _, c := range someSizes() {
		for _, edge := range edges {
			for _, p := range []api.Pattern{nil, {}, make(api.Pattern, 0, 3)} {
				got, e := grid.From(p, c.w, c.h, edge)
				checkGrid(t, "From of the empty pattern", got, e, zeros(c.w, c.h, edge), api.OK)
			}
			full := block(0, 0, c.w, c.h)
			got, e := checkFrom(t, full, c.w, c.h, edge)
			if e != api.OK || slices.Contains(got.Cells, 0) {
				t.Errorf("From of a pattern that fills the size %v is %v with the error %d", c, short(got), e)
			}
		}
	}
}

// P21.5: a pattern that fills the grid, and one cell more on each side.
func TestFromOneMore(t *testing.T) {
	for _, c := range someSizes() {
		for _, edge := range edges {
			for _, more := range []api.Cell{
				{X: -1, Y: 0, S: 1}, {X: c.w, Y: 0, S: 1}, {X: 0, Y: -1, S: 1}, {X: 0, Y: c.h, S: 1}, {X: -1, Y: c.h - 1, S: 1}, {X: c.w, Y: c.h - 1, S: 1},
				{X: c.w - 1, Y: -1, S: 1}, {X: c.w - 1, Y: c.h, S: 1}, {X: -1, Y: -1, S: 1}, {X: c.w, Y: c.h, S: 1},
			} {
				p, e := pattern.From(append(block(0, 0, c.w, c.h), more))
				if e != api.OK {
					t.Fatalf("there is no pattern, but the error %d", e)
				}
				got, e := grid.From(p, c.w, c.h, edge)
				checkGrid(t, "From", got, e, api.Grid{}, api.ErrRange)
			}
		}
	}
}

// P21.5: single cells at all positions of the grid, around it, and far outside.
func TestFromSingleCells(t *testing.T) {
	for _, edge := range edges {
		for _, c := range []size{{1, 1}, {4, 1}, {1, 4}, {3, 2}, {5, 7}} {
			for x := -c.w - 2; x <= 2*c.w+2; x++ {
				for y := -c.h - 2; y <= 2*c.h+2; y++ {
					_, e := checkFrom(t, api.Pattern{{X: x, Y: y, S: 5}}, c.w, c.h, edge)
					if isCell := x >= 0 && x < c.w && y >= 0 && y < c.h; isCell != (e == api.OK) {
						t.Errorf("From of a cell at (%d, %d), for the size %v, returns the error %d", x, y, c, e)
					}
				}
			}
			for _, n := range []int{-most, -most + 1, -1 << 16, -256, -255, -c.w, 255, 256, 257, 1 << 16, most - 1, most} {
				for _, at := range []api.Point{{X: n}, {Y: n}, {X: n, Y: n}, {X: n, Y: -n}, {X: n, Y: c.h - 1}, {X: c.w - 1, Y: n}} {
					_, e := checkFrom(t, api.Pattern{{X: at.X, Y: at.Y, S: 1}}, c.w, c.h, edge)
					if e != api.ErrRange {
						t.Errorf("From of a cell at %v, for the size %v, returns the error %d", at, c, e)
					}
				}
			}
		}
	}
}

// P21.5: cells at the edges of the greatest grids, and one beyond.
func TestFromGreatest(t *testing.T) {
	for _, c := range greatest {
		edge := edges[c.h%3]
		for _, x := range []int{-1, 0, 1, c.w - 2, c.w - 1, c.w, c.w + 1} {
			for _, y := range []int{-1, 0, 1, c.h - 2, c.h - 1, c.h, c.h + 1} {
				checkFrom(t, api.Pattern{{X: x, Y: y, S: 6}}, c.w, c.h, edge)
			}
		}
	}
	// There are more cells in the greatest patterns than in the greatest grids.
	for _, p := range []api.Pattern{block(0, 0, api.MaxCells, 1), block(0, 0, 50, 100), block(0, 0, 64, 78), block(-most, -most, 50, 100)} {
		got, e := grid.From(p, 64, 64, api.EdgeTorus)
		checkGrid(t, "From", got, e, api.Grid{}, api.ErrRange)
	}
}

// P21.5: ErrArg for a pattern or for a grid that is not valid, also where a cell is not one of the grid.
func TestFromErrors(t *testing.T) {
	wrong, shapes := wrongPatterns(), wrongShapes()
	right := []api.Pattern{nil, {{S: 1}}, block(0, 0, 3, 3), {{X: -1, S: 1}}, {{X: 300, S: 1}}, {{X: most, Y: most, S: 7}}, block(0, 0, 64, 64), block(0, 0, 5000, 1)}
	for _, p := range wrong {
		for _, edge := range edges {
			for _, c := range someSizes() {
				got, e := grid.From(p, c.w, c.h, edge)
				checkGrid(t, "From of a wrong pattern", got, e, api.Grid{}, api.ErrArg)
			}
		}
	}
	for _, c := range shapes {
		for _, p := range append(slices.Clone(wrong), right...) {
			got, e := grid.From(p, c.W, c.H, c.Edge)
			checkGrid(t, "From with a wrong size or edge", got, e, api.Grid{}, api.ErrArg)
		}
	}
}

// P21.5: any kind of edge.
func TestFromEdges(t *testing.T) {
	for _, edge := range ints {
		got, e := grid.From(block(1, 1, 2, 2), 4, 4, edge)
		if edge < 0 || edge > 2 {
			checkGrid(t, "From", got, e, api.Grid{}, api.ErrArg)
		} else {
			checkGrid(t, "From", got, e, api.Grid{W: 4, H: 4, Edge: edge, Cells: []int{0, 0, 0, 0, 0, 1, 2, 0, 0, 3, 4, 0, 0, 0, 0, 0}}, api.OK)
		}
	}
}

// P21.5
func TestFromRandom(t *testing.T) {
	counts := map[api.Errno]int{}
	manyGrids(215, 100, func(rng *rand.Rand, g api.Grid) {
		p := slices.DeleteFunc(block(-1, -1, g.W+2, g.H+2), func(c api.Cell) bool {
			return rng.Intn(3) == 0 || rng.Intn(12) > 0 && (c.X < 0 || c.Y < 0 || c.X >= g.W || c.Y >= g.H)
		})
		if len(p) <= api.MaxCells {
			_, e := checkFrom(t, p, g.W, g.H, g.Edge)
			counts[e]++
		}
	})
	if counts[api.OK] < 200 || counts[api.ErrRange] < 200 {
		t.Error("the numbers of patterns, by errors, are", counts)
	}
}

// checkPattern compares Pattern of a grid with what it has to be.
func checkPattern(t *testing.T, g api.Grid, want api.Pattern) {
	t.Helper()
	if got := grid.Pattern(g); !slices.Equal(got, want) {
		t.Errorf("Pattern(%v) is %v, not %v", short(g), shortPattern(got), shortPattern(want))
	}
}

// P21.6
func TestPatternExamples(t *testing.T) {
	for _, edge := range edges {
		checkPattern(t, api.Grid{W: 3, H: 1, Edge: edge, Cells: []int{1, 2, 0}}, api.Pattern{{S: 1}, {X: 1, S: 2}})
		checkPattern(t, api.Grid{W: 1, H: 3, Edge: edge, Cells: []int{0, 2, 7}}, api.Pattern{{Y: 1, S: 2}, {Y: 2, S: 7}})
		checkPattern(t, api.Grid{W: 2, H: 3, Edge: edge, Cells: []int{0, 6, 5, 0, 0, 1}}, api.Pattern{{X: 1, S: 6}, {Y: 1, S: 5}, {X: 1, Y: 2, S: 1}})
		checkPattern(t, api.Grid{W: 1, H: 1, Edge: edge, Cells: []int{0}}, nil)
		checkPattern(t, api.Grid{W: 1, H: 1, Edge: edge, Cells: []int{3}}, api.Pattern{{S: 3}})
	}
}

// P21.6: grids of zeros, full ones, and single cells.
func TestPatternSizes(t *testing.T) {
	for _, c := range someSizes() {
		for _, edge := range edges {
			checkPattern(t, zeros(c.w, c.h, edge), nil)
			checkPattern(t, varied(c.w, c.h, edge), patternModel(varied(c.w, c.h, edge)))
			full := zeros(c.w, c.h, edge)
			for i := range full.Cells {
				full.Cells[i] = 1 + i%7
			}
			checkPattern(t, full, block(0, 0, c.w, c.h))
			for _, at := range []api.Point{{}, {X: c.w - 1}, {Y: c.h - 1}, {X: c.w - 1, Y: c.h - 1}, {X: c.w / 2, Y: c.h / 2}} {
				g := zeros(c.w, c.h, edge)
				g.Cells[at.Y*c.w+at.X] = 7
				checkPattern(t, g, api.Pattern{{X: at.X, Y: at.Y, S: 7}})
			}
		}
	}
}

// P21.6: nothing if the grid is not valid.
func TestPatternOfWrongGrids(t *testing.T) {
	for _, g := range wrongGrids() {
		checkPattern(t, g, nil)
	}
}

// P21.6: patterns are valid.
func TestPatternRandom(t *testing.T) {
	manyGrids(216, 60, func(_ *rand.Rand, g api.Grid) {
		checkPattern(t, g, patternModel(g))
		if !pattern.Right(grid.Pattern(g)) {
			t.Errorf("Pattern(%v) is not valid", short(g))
		}
	})
}
