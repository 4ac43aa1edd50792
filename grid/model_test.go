package grid_test

import (
	"math"
	"math/big"
	"math/rand"
	"slices"
	"testing"

	"cellular/api"
)

// The tests compare package grid with a model that lists, for each side, the cells to which the coordinates lead until they are repeated, that
// takes remainders of integers of any size, and that keeps the cells of a pattern in a map.

const (
	side = api.MaxSide
	area = api.MaxArea
	most = api.MaxCoord
)

// edges are the kinds of edges.
var edges = []int{api.EdgeDead, api.EdgeTorus, api.EdgeFold}

// ints are numbers at the limits of int, of coordinates, sides, areas and states, and some that are small ones in 8, 16 or 32 bits.
var ints = []int{
	math.MinInt, math.MinInt + 1, math.MinInt + 2, math.MinInt + 3, -1<<62 - 1, -1 << 62, -1<<32 - 1, -1 << 32, -1<<32 + 1, -1<<32 + 4, -1 << 31,
	-most - 1, -most, -65536, -65535, -4097, -4096, -513, -512, -257, -256, -255, -129, -128, -65, -64, -17, -16, -9, -8, -7, -6, -5, -4, -3, -2, -1,
	0, 1, 2, 3, 4, 5, 6, 7, 8, 9, 15, 16, 17, 63, 64, 65, 127, 128, 255, 256, 257, 258, 511, 512, 513, 4095, 4096, 4097, 65536, 65537, most, most + 1,
	1<<31 - 1, 1 << 31, 1<<32 - 1, 1 << 32, 1<<32 + 1, 1<<32 + 3, 1<<32 + 64, 1<<62 - 1, 1 << 62, math.MaxInt - 3, math.MaxInt - 2, math.MaxInt - 1,
	math.MaxInt,
}

// size is the size of a grid.
type size struct{ w, h int }

// greatest are sizes with MaxArea cells, and those with the greatest sides.
var greatest = []size{
	{256, 16}, {16, 256}, {64, 64}, {128, 32}, {32, 128}, {256, 1}, {1, 256}, {256, 15}, {15, 256}, {241, 16}, {17, 240}, {63, 65}, {65, 63},
}

// someSizes returns all small sizes and the greatest ones.
func someSizes() []size {
	l := slices.Clone(greatest)
	for w := 1; w <= 5; w++ {
		for h := 1; h <= 5; h++ {
			l = append(l, size{w, h})
		}
	}
	return append(l, size{1, 9}, size{9, 1}, size{7, 13}, size{31, 2}, size{2, 33})
}

// modulo returns the remainder of n modulo m.
func modulo(n, m int) int {
	return int(new(big.Int).Mod(big.NewInt(int64(n)), big.NewInt(int64(m))).Int64())
}

// period returns the cells of a side to which the coordinates from 0 on lead, until they are repeated.
func period(edge, n int) []int {
	var l []int
	for i := range n {
		l = append(l, i)
	}
	if edge == api.EdgeFold {
		for i := range n {
			l = append(l, n-1-i)
		}
	}
	return l
}

// cellAt returns the cell of a side to which a coordinate leads, and -1 if there is none.
func cellAt(edge, n, c int) int {
	l := period(edge, n)
	if edge == api.EdgeDead {
		return slices.Index(l, c)
	}
	return l[modulo(c, len(l))]
}

// getModel returns what Get has to return for a valid grid.
func getModel(g api.Grid, x, y int) int {
	column, row := cellAt(g.Edge, g.W, x), cellAt(g.Edge, g.H, y)
	if column < 0 || row < 0 {
		return 0
	}
	return slices.Collect(slices.Chunk(g.Cells, g.W))[row][column]
}

// rollModel returns what Roll has to return for a valid torus.
func rollModel(g api.Grid, dx, dy int) api.Grid {
	rolled := zeros(g.W, g.H, g.Edge)
	for x := range g.W {
		for y := range g.H {
			// The cells are moved one by one to where they go.
			rolled.Cells[modulo(y+modulo(dy, g.H), g.H)*g.W+modulo(x+modulo(dx, g.W), g.W)] = g.Cells[y*g.W+x]
		}
	}
	return rolled
}

// patternModel returns what Pattern has to return for a valid grid.
func patternModel(g api.Grid) api.Pattern {
	var p api.Pattern
	i := 0
	for y := range g.H {
		for x := range g.W {
			if s := g.Cells[i]; s > 0 {
				p = append(p, api.Cell{X: x, Y: y, S: s})
			}
			i++
		}
	}
	return p
}

// fromModel returns what From has to return for a valid pattern and the size and the edge of a valid grid.
func fromModel(p api.Pattern, w, h, edge int) (api.Grid, api.Errno) {
	m := map[api.Point]int{}
	for _, c := range p {
		m[api.Point{X: c.X, Y: c.Y}] = c.S
	}
	g := api.Grid{W: w, H: h, Edge: edge}
	for y := range h {
		for x := range w {
			at := api.Point{X: x, Y: y}
			g.Cells = append(g.Cells, m[at])
			delete(m, at)
		}
	}
	if len(m) > 0 {
		return api.Grid{}, api.ErrRange
	}
	return g, api.OK
}

// isShape reports whether a valid grid can have a size and a kind of edge.
func isShape(w, h, edge int) bool {
	for _, n := range []int{w, h} {
		if n <= 0 || n > 256 {
			return false
		}
	}
	return w*h < 4097 && slices.Contains([]int{0, 1, 2}, edge)
}

// isGrid reports whether a grid is valid.
func isGrid(g api.Grid) bool {
	if !isShape(g.W, g.H, g.Edge) || len(g.Cells) != g.W*g.H {
		return false
	}
	for _, s := range g.Cells {
		if !slices.Contains([]int{0, 1, 2, 3, 4, 5, 6, 7}, s) {
			return false
		}
	}
	return true
}

// zeros returns a grid of zeros, as long as there are not too many.
func zeros(w, h, edge int) api.Grid {
	return api.Grid{W: w, H: h, Edge: edge, Cells: make([]int, w*h)}
}

// varied returns a grid whose cells have all states, one after the other, and different ones in neighbouring rows.
func varied(w, h, edge int) api.Grid {
	g := zeros(w, h, edge)
	for i := range g.Cells {
		g.Cells[i] = (i%w + i/w*3 + i/w/8) % api.MaxStates
	}
	return g
}

// randomGrid returns a grid with states below a number.
func randomGrid(rng *rand.Rand, w, h, edge, states int) api.Grid {
	g := zeros(w, h, edge)
	for i := range g.Cells {
		g.Cells[i] = rng.Intn(states)
	}
	return g
}

// manyGrids calls a function with random grids of two to eight states with each kind of edge.
func manyGrids(seed int64, times int, visit func(rng *rand.Rand, g api.Grid)) {
	rng := rand.New(rand.NewSource(seed))
	for _, edge := range edges {
		for states := 2; states <= api.MaxStates; states++ {
			for i := range times {
				w, h := 1+rng.Intn(9), 1+rng.Intn(9)
				switch i % 8 {
				case 0:
					w = 1
				case 1:
					h = 1
				case 2:
					w = 1 + rng.Intn(side)
					h = 1 + rng.Intn(min(side, area/w))
				}
				visit(rng, randomGrid(rng, w, h, edge, states))
			}
		}
	}
}

// anyInt returns any int, a small one, or one of those at the limits.
func anyInt(rng *rand.Rand) int {
	switch rng.Intn(3) {
	case 0:
		return int(rng.Uint64())
	case 1:
		return rng.Intn(1001) - 500
	}
	return ints[rng.Intn(len(ints))]
}

// wrongShapes are sizes and kinds of edges that no valid grid has, each for one reason, or for several.
func wrongShapes() []api.Grid {
	l := []api.Grid{
		{W: 17, H: 241}, {W: 241, H: 17}, {W: 256, H: 17}, {W: 17, H: 256}, {W: 65, H: 64}, {W: 64, H: 65}, {W: 256, H: 256},
		// The product of the sides would be right.
		{W: -1, H: -1}, {W: -2, H: -3}, {W: -64, H: -64}, {W: -256, H: -16}, {W: 4096, H: 1}, {W: 1, H: 4096}, {W: 2048, H: 2}, {W: 2, H: 2048},
		{W: 1000, H: 4}, {W: 4, H: 1000},
		// It would be so in 64 bits, as it is 1 or 2.
		{W: math.MaxInt, H: math.MaxInt}, {W: 3, H: 6148914691236517206}, {W: 6148914691236517206, H: 3}, {W: 3, H: -6148914691236517205},
		{W: -3, H: 6148914691236517205}, {W: -6148914691236517205, H: 3},
		// It would be 0.
		{W: 1 << 32, H: 1 << 32}, {W: 1 << 62, H: 4}, {W: 4, H: 1 << 62}, {W: math.MinInt, H: 2}, {W: 2, H: math.MinInt}, {W: math.MinInt, H: math.MinInt},
		{}, {W: 0, H: math.MaxInt}, {W: math.MinInt, H: 0},
		// In 32 or 8 bits, the sides and the edges would be right.
		{W: 1<<32 + 1, H: 1}, {W: 1, H: 1<<32 + 1}, {W: 1, H: 1, Edge: 1 << 32}, {W: 1, H: 1, Edge: 256}, {W: 1, H: 1, Edge: -1 << 32},
		{W: 9, H: 9, Edge: 3}, {W: 9, H: 0, Edge: 3}, {W: 300, H: 300, Edge: -1},
	}
	for _, n := range ints {
		if n < 1 || n > 256 {
			l = append(l, api.Grid{W: n, H: 1}, api.Grid{W: 1, H: n}, api.Grid{W: n, H: 7, Edge: 2}, api.Grid{W: 7, H: n, Edge: 1}, api.Grid{W: n, H: n})
		}
		if n < 0 || n > 2 {
			l = append(l, api.Grid{W: 1, H: 1, Edge: n}, api.Grid{W: 5, H: 3, Edge: n}, api.Grid{W: 256, H: 16, Edge: n})
		}
	}
	return l
}

// ones returns n states that are 1.
func ones(n int) []int {
	return slices.Repeat([]int{1}, n)
}

// wrongGrids are grids that are not valid. As far as there can be a number of cells that fits, they have it.
func wrongGrids() []api.Grid {
	var l []api.Grid
	for _, g := range wrongShapes() {
		if n := g.W * g.H; n >= 0 && n <= side*side {
			g.Cells = ones(n)
		}
		l = append(l, g)
	}
	for _, edge := range edges {
		for _, c := range []size{{1, 1}, {3, 1}, {1, 3}, {4, 5}, {256, 16}, {16, 256}} {
			n := c.w * c.h
			for _, number := range []int{0, 1, n - 1, n + 1, n - c.w, n + c.w, 2 * n} {
				if number != n {
					l = append(l, api.Grid{W: c.w, H: c.h, Edge: edge, Cells: ones(number)})
				}
			}
			l = append(l, api.Grid{W: c.w, H: c.h, Edge: edge})
			for _, s := range ints {
				if s < 0 || s > 7 {
					for _, i := range []int{0, n / 2, n - 1} {
						g := api.Grid{W: c.w, H: c.h, Edge: edge, Cells: ones(n)}
						g.Cells[i] = s
						l = append(l, g)
					}
				}
			}
		}
	}
	return l
}

// sameGrid reports whether two grids are equal.
func sameGrid(a, b api.Grid) bool {
	return a.W == b.W && a.H == b.H && a.Edge == b.Edge && slices.Equal(a.Cells, b.Cells)
}

// checkGrid compares the results of a call with those expected.
func checkGrid(t *testing.T, call string, got api.Grid, e api.Errno, want api.Grid, wanted api.Errno) {
	t.Helper()
	if !sameGrid(got, want) || e != wanted {
		t.Errorf("%s returns %v and the error %d, not %v and %d", call, short(got), e, short(want), wanted)
	}
}

// short returns a grid with the beginning of its cells, for a message.
func short(g api.Grid) api.Grid {
	g.Cells = g.Cells[:min(len(g.Cells), 30)]
	return g
}

// shortPattern returns the beginning of a pattern, for a message.
func shortPattern(p api.Pattern) api.Pattern {
	return p[:min(len(p), 12)]
}
