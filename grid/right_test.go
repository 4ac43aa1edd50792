package grid_test

import (
	"math"
	"math/rand"
	"slices"
	"testing"

	"cellular/api"
	"cellular/grid"
)

// P21.1
func TestRightExamples(t *testing.T) {
	for _, c := range []struct {
		g    api.Grid
		want bool
	}{
		{api.Grid{W: 1, H: 1, Cells: []int{0}}, true},
		{api.Grid{W: 3, H: 1, Cells: []int{1, 2, 0}}, true},
		{api.Grid{W: 1, H: 3, Edge: 1, Cells: []int{7, 7, 7}}, true},
		{api.Grid{W: 2, H: 2, Edge: 2, Cells: []int{0, 1, 0, 7}}, true},
		{api.Grid{W: 256, H: 16, Edge: 2, Cells: make([]int, 4096)}, true},
		{api.Grid{W: 16, H: 256, Edge: 1, Cells: make([]int, 4096)}, true},
		{api.Grid{W: 64, H: 64, Cells: make([]int, 4096)}, true},
		{api.Grid{}, false},
		{api.Grid{W: 3, H: 0, Cells: nil}, false},
		{api.Grid{W: 0, H: 3, Cells: []int{}}, false},
		{api.Grid{W: 257, H: 1, Cells: make([]int, 257)}, false},
		{api.Grid{W: 1, H: 257, Cells: make([]int, 257)}, false},
		{api.Grid{W: 17, H: 241, Cells: make([]int, 4097)}, false},
		{api.Grid{W: 241, H: 17, Cells: make([]int, 4097)}, false},
		{api.Grid{W: -1, H: -1, Cells: []int{0}}, false},
		{api.Grid{W: math.MaxInt, H: math.MaxInt, Cells: []int{0}}, false},
		{api.Grid{W: 3, H: 6148914691236517206, Cells: []int{0, 0}}, false},
		{api.Grid{W: 1 << 32, H: 1 << 32}, false},
		{api.Grid{W: 2, H: math.MinInt}, false},
		{api.Grid{W: 1, H: 1, Edge: -1, Cells: []int{0}}, false},
		{api.Grid{W: 1, H: 1, Edge: 3, Cells: []int{0}}, false},
		{api.Grid{W: 2, H: 2, Cells: []int{0, 0, 0}}, false},
		{api.Grid{W: 2, H: 2, Cells: []int{0, 0, 0, 0, 0}}, false},
		{api.Grid{W: 2, H: 2}, false},
		{api.Grid{W: 2, H: 1, Cells: []int{0, -1}}, false},
		{api.Grid{W: 2, H: 1, Cells: []int{8, 0}}, false},
	} {
		if got := grid.Right(c.g); got != c.want {
			t.Errorf("Right(%v) is %v", short(c.g), got)
		}
	}
}

// P21.1: grids with all fields right, and with one of them wrong.
func TestRightLists(t *testing.T) {
	for _, c := range someSizes() {
		for _, edge := range edges {
			if g := varied(c.w, c.h, edge); !grid.Right(g) || !isGrid(g) {
				t.Errorf("%v is valid", short(g))
			}
		}
	}
	for _, g := range wrongGrids() {
		if grid.Right(g) || isGrid(g) {
			t.Errorf("%v with %d cells is not valid", short(g), len(g.Cells))
		}
	}
}

// P21.1: all sizes up to those beyond the greatest sides, with as many cells as they need.
func TestRightSizes(t *testing.T) {
	memory := make([]int, (side+2)*(side+2))
	valid := 0
	for w := -3; w <= side+2; w++ {
		for h := -3; h <= side+2; h++ {
			g := api.Grid{W: w, H: h, Edge: (w + h + 6) % 3, Cells: memory[:max(w*h, 0)]}
			if got := grid.Right(g); got != isGrid(g) {
				t.Errorf("Right of a grid with the size %d, %d is %v", w, h, got)
			}
			if isGrid(g) {
				valid++
			}
		}
	}
	if valid < 10000 {
		t.Errorf("only %d sizes are valid", valid)
	}
}

// P21.1: all pairs of ints as sizes, with no cells, and with as many as their product, as an int, tells.
func TestRightAnySizes(t *testing.T) {
	memory := make([]int, side*side)
	for _, w := range ints {
		for _, h := range ints {
			lists := [][]int{nil, {}, {0}, memory[:area]}
			if n := w * h; n >= 0 && n <= len(memory) {
				lists = append(lists, memory[:n])
			}
			for _, l := range lists {
				g := api.Grid{W: w, H: h, Edge: api.EdgeTorus, Cells: l}
				if got := grid.Right(g); got != isGrid(g) {
					t.Errorf("Right of a grid with the size %d, %d and %d cells is %v", w, h, len(l), got)
				}
			}
		}
	}
}

// P21.1: each number as a kind of edge and as a state of each cell, and each number of cells.
func TestRightFields(t *testing.T) {
	good := varied(5, 4, api.EdgeFold)
	for _, n := range ints {
		g := good
		g.Edge = n
		if got := grid.Right(g); got != isGrid(g) {
			t.Errorf("Right with the edge %d is %v", n, got)
		}
		for i := range good.Cells {
			g := good
			g.Cells = slices.Clone(good.Cells)
			g.Cells[i] = n
			if got := grid.Right(g); got != isGrid(g) {
				t.Errorf("Right with the state %d of the cell %d is %v", n, i, got)
			}
		}
	}
	for n := range 50 {
		g := good
		g.Cells = ones(n)
		if got := grid.Right(g); got != (n == 20) {
			t.Errorf("Right with %d cells instead of 20 is %v", n, got)
		}
	}
}

// P21.1: random grids, one number of which may be wrong.
func TestRightRandom(t *testing.T) {
	counts := map[bool]int{}
	manyGrids(211, 200, func(rng *rand.Rand, g api.Grid) {
		n := anyInt(rng)
		switch rng.Intn(5) {
		case 0:
			g.W = n
		case 1:
			g.H = n
		case 2:
			g.Edge = n
		case 3:
			g.Cells[rng.Intn(len(g.Cells))] = n
		case 4:
			g.Cells = g.Cells[:rng.Intn(len(g.Cells)+1)]
		}
		got := grid.Right(g)
		counts[got]++
		if got != isGrid(g) {
			t.Errorf("Right(%v) is %v", short(g), got)
		}
	})
	if counts[true] < 100 || counts[false] < 1000 {
		t.Error("the numbers of grids, by whether they are valid, are", counts)
	}
}

// P21.2
func TestNewExamples(t *testing.T) {
	for _, edge := range edges {
		got, e := grid.New(3, 2, edge)
		checkGrid(t, "New", got, e, api.Grid{W: 3, H: 2, Edge: edge, Cells: []int{0, 0, 0, 0, 0, 0}}, api.OK)
	}
	for _, edge := range []int{math.MinInt, -2, -1, 3, 4, math.MaxInt} {
		got, e := grid.New(3, 2, edge)
		checkGrid(t, "New", got, e, api.Grid{}, api.ErrArg)
	}
}

// P21.2: all sizes up to those beyond the greatest sides.
func TestNewSizes(t *testing.T) {
	for w := -2; w <= side+2; w++ {
		for h := -2; h <= side+2; h++ {
			edge := edges[(w+2+h+2)%3]
			got, e := grid.New(w, h, edge)
			if !isShape(w, h, edge) {
				checkGrid(t, "New", got, e, api.Grid{}, api.ErrArg)
				continue
			}
			if got.W != w || got.H != h || got.Edge != edge || len(got.Cells) != w*h || slices.Max(got.Cells) != 0 || slices.Min(got.Cells) != 0 || e != api.OK {
				t.Errorf("New(%d, %d, %d) returns %v and the error %d", w, h, edge, short(got), e)
			}
		}
	}
}

// P21.2
func TestNewErrors(t *testing.T) {
	for _, c := range wrongShapes() {
		got, e := grid.New(c.W, c.H, c.Edge)
		checkGrid(t, "New", got, e, api.Grid{}, api.ErrArg)
	}
	for _, w := range ints {
		for _, h := range ints {
			for _, edge := range []int{-1, 0, 2, 3} {
				got, e := grid.New(w, h, edge)
				if isShape(w, h, edge) {
					checkGrid(t, "New", got, e, zeros(w, h, edge), api.OK)
				} else {
					checkGrid(t, "New", got, e, api.Grid{}, api.ErrArg)
				}
			}
		}
	}
}

// P21.8: grids of which one field is different, and equal ones, valid or not.
func TestSameFields(t *testing.T) {
	// A different width, height or number of cells alone means that at least one of the grids is not valid.
	base := varied(4, 3, api.EdgeTorus)
	other := func(change func(g *api.Grid)) api.Grid {
		g := base
		g.Cells = slices.Clone(base.Cells)
		change(&g)
		return g
	}
	var different []api.Grid
	for _, n := range ints {
		for _, change := range []func(g *api.Grid){
			func(g *api.Grid) { g.W = n }, func(g *api.Grid) { g.H = n }, func(g *api.Grid) { g.Edge = n }, func(g *api.Grid) { g.Cells[0] = n },
			func(g *api.Grid) { g.Cells[5] = n }, func(g *api.Grid) { g.Cells[11] = n },
		} {
			if g := other(change); !sameGrid(g, base) {
				different = append(different, g)
			}
		}
	}
	different = append(different,
		other(func(g *api.Grid) { g.Cells = g.Cells[:11] }), other(func(g *api.Grid) { g.Cells = g.Cells[1:] }),
		other(func(g *api.Grid) { g.Cells = append(g.Cells, 0) }), other(func(g *api.Grid) { g.Cells = append([]int{0}, g.Cells...) }),
		other(func(g *api.Grid) { g.Cells = nil }), other(func(g *api.Grid) { g.W, g.H = 3, 4 }), other(func(g *api.Grid) { g.W, g.H = 12, 1 }))
	for i, g := range different {
		if grid.Same(base, g) || grid.Same(g, base) {
			t.Errorf("Same of %v and %v is true", base, g)
		}
		for k, h := range different {
			if got := grid.Same(g, h); got != sameGrid(g, h) || i == k && !got {
				t.Errorf("Same of %v and %v is %v", g, h, got)
			}
		}
	}
	if !grid.Same(base, other(func(*api.Grid) {})) || !grid.Same(base, base) {
		t.Error("Same of equal grids is false")
	}
}

// P21.8: any grids. Lists of cells that are nil and empty are the same.
func TestSameOfAnyGrids(t *testing.T) {
	l := append(wrongGrids(), api.Grid{Cells: []int{}}, varied(3, 3, 0), varied(3, 3, 1), varied(9, 1, 0), varied(1, 9, 0), zeros(3, 3, 0))
	for i := range l {
		for k := range l {
			if got := grid.Same(l[i], l[k]); got != sameGrid(l[i], l[k]) || got != grid.Same(l[k], l[i]) {
				t.Errorf("Same of %v and %v is %v", short(l[i]), short(l[k]), got)
			}
		}
		copied := l[i]
		copied.Cells = append([]int{}, l[i].Cells...)
		if !grid.Same(l[i], copied) || !grid.Same(copied, l[i]) {
			t.Errorf("Same of %v and a copy is false", short(l[i]))
		}
	}
	for _, w := range ints {
		a, b, c := api.Grid{W: w, H: w, Edge: w}, api.Grid{W: w, H: w, Edge: w, Cells: []int{}}, api.Grid{W: w, H: w, Edge: w, Cells: []int{w}}
		if !grid.Same(a, b) || !grid.Same(b, a) || grid.Same(a, c) || grid.Same(c, b) {
			t.Errorf("Same of grids with the fields %d is wrong", w)
		}
	}
}

// P21.8
func TestSameRandom(t *testing.T) {
	manyGrids(212, 60, func(rng *rand.Rand, g api.Grid) {
		h := g
		h.Cells = slices.Clone(g.Cells)
		if !grid.Same(g, h) {
			t.Errorf("Same of %v and a copy is false", short(g))
		}
		i := rng.Intn(len(h.Cells))
		h.Cells[i]++
		if grid.Same(g, h) || grid.Same(h, g) {
			t.Errorf("Same of %v and a grid that differs in the cell %d is true", short(g), i)
		}
	})
}
