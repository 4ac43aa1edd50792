package grid_test

import (
	"fmt"
	"slices"
	"testing"

	"cellular/api"
	"cellular/grid"
)

// laidOut returns a grid with the same cells, with other numbers before and behind them in memory, and this memory.
func laidOut(g api.Grid) (api.Grid, []int) {
	memory := slices.Concat([]int{77, -77}, g.Cells, []int{66, -66, 55})
	g.Cells = memory[2 : 2+len(g.Cells)]
	return g, memory
}

// laidPattern returns a pattern with the same cells, with other ones before and behind them in memory, and this memory.
func laidPattern(p api.Pattern) (api.Pattern, []api.Cell) {
	behind := api.Cell{X: 77, Y: -77, S: 77}
	memory := slices.Concat(api.Pattern{behind}, p, api.Pattern{behind, behind})
	return memory[1 : 1+len(p)], memory
}

// gridCalls are all calls with a grid. Those that return no grid, or no pattern, return their other results as text.
var gridCalls = []struct {
	name string
	call func(g api.Grid, a, b, c int) (api.Grid, api.Pattern, string)
}{
	{"Right", func(g api.Grid, _, _, _ int) (api.Grid, api.Pattern, string) {
		return api.Grid{}, nil, fmt.Sprint(grid.Right(g))
	}},
	{"Get", func(g api.Grid, a, b, _ int) (api.Grid, api.Pattern, string) {
		return api.Grid{}, nil, fmt.Sprint(grid.Get(g, a, b))
	}},
	{"Set", func(g api.Grid, a, b, c int) (api.Grid, api.Pattern, string) {
		h, e := grid.Set(g, a, b, c)
		return h, nil, fmt.Sprint(int(e))
	}},
	{"Pattern", func(g api.Grid, _, _, _ int) (api.Grid, api.Pattern, string) {
		return api.Grid{}, grid.Pattern(g), ""
	}},
	{"Roll", func(g api.Grid, a, b, _ int) (api.Grid, api.Pattern, string) {
		h, e := grid.Roll(g, a, b)
		return h, nil, fmt.Sprint(int(e))
	}},
	{"Same", func(g api.Grid, _, _, _ int) (api.Grid, api.Pattern, string) {
		return api.Grid{}, nil, fmt.Sprint(grid.Same(g, g))
	}},
}

// moves are arguments of calls, among them those that change nothing, and those that are not right.
var moves = [][3]int{{0, 0, 0}, {0, 0, 1}, {0, 0, 7}, {1, 0, 3}, {0, 1, 2}, {-1, 0, 1}, {3, 2, 5}, {6, 4, 1}, {2, 1, 8}, {2, 1, -1}, {300, -300, 1}}

// givenGrids are valid grids with each kind of edge, and others.
func givenGrids() []api.Grid {
	var l []api.Grid
	for _, edge := range edges {
		l = append(l, varied(1, 1, edge), varied(3, 2, edge), varied(2, 3, edge), zeros(3, 2, edge), varied(1, 7, edge), varied(64, 64, edge))
	}
	return append(l, wrongGrids()...)
}

// Rules for all calls, 4: grids stay as they are, and so does the memory around them.
func TestGridsAreOnlyRead(t *testing.T) {
	for _, g := range givenGrids() {
		for _, m := range moves {
			for _, f := range gridCalls {
				own, memory := laidOut(g)
				before := slices.Clone(memory)
				f.call(own, m[0], m[1], m[2])
				if !slices.Equal(memory, before) || !sameGrid(own, g) {
					t.Fatalf("%s of %v with %v changes the grid to %v", f.name, short(g), m, short(own))
				}
			}
		}
	}
}

// fill changes all elements of a list, and of the memory behind it.
func fill(l []int) {
	l = l[:cap(l)]
	for i := range l {
		l[i] = 88
	}
}

// Rules for all calls, 4, and rule 7 of the language: results are new memory, which neither the arguments nor other results share.
func TestGridsAreNew(t *testing.T) {
	for _, g := range givenGrids() {
		for _, m := range moves {
			for _, f := range gridCalls {
				own, memory := laidOut(g)
				before := slices.Clone(memory)
				first, p, _ := f.call(own, m[0], m[1], m[2])
				second, q, _ := f.call(own, m[0], m[1], m[2])
				wanted, r := second, slices.Clone(q)
				wanted.Cells = slices.Clone(second.Cells)
				fill(first.Cells)
				for i := range p[:cap(p)] {
					p[:cap(p)][i] = api.Cell{X: 88, Y: 88, S: 88}
				}
				if !slices.Equal(memory, before) {
					t.Errorf("%s of %v with %v: a change of the result changes the argument", f.name, short(g), m)
				}
				fill(memory)
				if !sameGrid(second, wanted) || !slices.Equal(q, r) {
					t.Errorf("%s of %v with %v: a change of the argument, or of another result, changes the result", f.name, short(g), m)
				}
			}
		}
	}
}

// Rules for all calls, 4, and rule 7 of the language: patterns stay as they are, and results of New and From share no memory.
func TestPatternsAreOnlyRead(t *testing.T) {
	for _, p := range append(wrongPatterns(), nil, api.Pattern{{S: 1}}, block(0, 0, 3, 2), block(0, 0, 2, 2), block(1, 1, 4, 4), block(0, 0, 64, 64)) {
		for _, c := range []size{{3, 2}, {1, 1}, {64, 64}, {0, 5}, {5, 257}} {
			for edge := -1; edge <= 3; edge++ {
				own, memory := laidPattern(p)
				before := slices.Clone(memory)
				first, e := grid.From(own, c.w, c.h, edge)
				second, _ := grid.From(own, c.w, c.h, edge)
				wanted := second
				wanted.Cells = slices.Clone(second.Cells)
				fill(first.Cells)
				if !slices.Equal(memory, before) {
					t.Fatalf("From of %v, with the error %d, changes the pattern", shortPattern(p), e)
				}
				for i := range memory {
					memory[i] = api.Cell{X: 88, Y: 88, S: 88}
				}
				if !sameGrid(second, wanted) {
					t.Errorf("From of %v: a change of the pattern, or of another result, changes the result", shortPattern(p))
				}
			}
		}
	}
	for _, c := range someSizes() {
		first, _ := grid.New(c.w, c.h, 1)
		second, e := grid.New(c.w, c.h, 1)
		fill(first.Cells)
		checkGrid(t, "New", second, e, zeros(c.w, c.h, 1), api.OK)
	}
}

// Rules for all calls, 4: grids whose cells are parts of one list, which stays as it is.
func TestGridsInOneList(t *testing.T) {
	list := varied(12, 2, 0).Cells
	before := slices.Clone(list)
	for i := range 19 {
		g := api.Grid{W: 3, H: 2, Edge: api.EdgeTorus, Cells: list[i : i+6]}
		own := g
		own.Cells = slices.Clone(before[i : i+6])
		for _, m := range moves {
			for _, f := range gridCalls {
				h, p, s := f.call(g, m[0], m[1], m[2])
				k, q, u := f.call(own, m[0], m[1], m[2])
				if !sameGrid(h, k) || !slices.Equal(p, q) || s != u {
					t.Errorf("%s of a part of a list is not that of a copy", f.name)
				}
				if !slices.Equal(list, before) {
					t.Fatalf("%s changes the list to %v", f.name, list)
				}
			}
		}
	}
}

// Rules for all calls, 5: results depend on nothing but the arguments.
func TestCallsBefore(t *testing.T) {
	grids := givenGrids()[:24]
	for _, g := range grids {
		for _, m := range moves {
			for _, f := range gridCalls {
				h, p, s := f.call(g, m[0], m[1], m[2])
				for i, other := range gridCalls {
					other.call(grids[(i*5+3)%len(grids)], m[2], m[0], m[1])
				}
				grid.New(5, 5, 1)
				grid.From(block(0, 0, 5, 5), 6, 6, 2)
				k, q, u := f.call(g, m[0], m[1], m[2])
				if !sameGrid(h, k) || !slices.Equal(p, q) || s != u {
					t.Errorf("%s of %v with %v is not the same twice", f.name, short(g), m)
				}
			}
		}
	}
}
