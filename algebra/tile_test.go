package algebra_test

import (
	"fmt"
	"math"
	"math/rand"
	"testing"

	"cellular/algebra"
	"cellular/api"
)

// expectTile compares Tile with what is expected.
func expectTile(t *testing.T, p api.Pattern, l tiling, want api.Pattern, wantError api.Errno) {
	t.Helper()
	checkCall(t, fmt.Sprint("Tile by ", l), result{want, wantError}, func(lists []api.Pattern) result {
		got, e := algebra.Tile(lists[0], l.dx, l.dy, l.nx, l.ny)
		return result{got, e}
	}, p)
}

// checkTile compares Tile with the model.
func checkTile(t *testing.T, p api.Pattern, l tiling) {
	t.Helper()
	want, e := tileModel(p, l)
	expectTile(t, p, l, want, e)
}

// P6.5
func TestTileExamples(t *testing.T) {
	p := api.Pattern{{X: 1, S: 2}, {Y: 1, S: 3}}
	for _, c := range []struct {
		p    api.Pattern
		l    tiling
		want api.Pattern
	}{
		{api.Pattern{{S: 1}}, tiling{2, 3, 2, 2}, api.Pattern{{S: 1}, {X: 2, S: 1}, {Y: 3, S: 1}, {X: 2, Y: 3, S: 1}}},
		{api.Pattern{{S: 1}}, tiling{-2, -3, 2, 2}, api.Pattern{{X: -2, Y: -3, S: 1}, {Y: -3, S: 1}, {X: -2, S: 1}, {S: 1}}},
		{api.Pattern{{S: 1}}, tiling{5, 7, 3, 1}, api.Pattern{{S: 1}, {X: 5, S: 1}, {X: 10, S: 1}}},
		{api.Pattern{{S: 1}}, tiling{5, 7, 1, 3}, api.Pattern{{S: 1}, {Y: 7, S: 1}, {Y: 14, S: 1}}},
		{p, tiling{9, 9, 1, 1}, p},
		{p, tiling{3, 9, 2, 1}, api.Pattern{{X: 1, S: 2}, {X: 4, S: 2}, {Y: 1, S: 3}, {X: 3, Y: 1, S: 3}}},
		{p, tiling{9, -1, 1, 2}, api.Pattern{{X: 1, Y: -1, S: 2}, {S: 3}, {X: 1, S: 2}, {Y: 1, S: 3}}},
	} {
		expectTile(t, c.p, c.l, c.want, api.OK)
		checkTile(t, c.p, c.l)
	}
}

// P6.5: where copies lie over one another, the least j decides, and then the least i.
func TestTileCopiesOverOneAnother(t *testing.T) {
	pair := api.Pattern{{S: 1}, {X: 1, S: 2}}
	tower := api.Pattern{{S: 1}, {Y: 1, S: 2}}
	slope := api.Pattern{{X: 1, S: 2}, {Y: 1, S: 3}}
	for _, c := range []struct {
		p    api.Pattern
		l    tiling
		want api.Pattern
	}{
		{pair, tiling{1, 0, 3, 1}, api.Pattern{{S: 1}, {X: 1, S: 2}, {X: 2, S: 2}, {X: 3, S: 2}}},
		{pair, tiling{-1, 0, 3, 1}, api.Pattern{{X: -2, S: 1}, {X: -1, S: 1}, {S: 1}, {X: 1, S: 2}}},
		{tower, tiling{0, 1, 1, 3}, api.Pattern{{S: 1}, {Y: 1, S: 2}, {Y: 2, S: 2}, {Y: 3, S: 2}}},
		{tower, tiling{0, -1, 1, 3}, api.Pattern{{Y: -2, S: 1}, {Y: -1, S: 1}, {S: 1}, {Y: 1, S: 2}}},
		// The copy with i = 1 and j = 0 and that with i = 0 and j = 1 have (1, 1).
		{slope, tiling{1, 1, 2, 2}, api.Pattern{
			{X: 1, S: 2}, {X: 2, S: 2}, {Y: 1, S: 3}, {X: 1, Y: 1, S: 3}, {X: 2, Y: 1, S: 2}, {Y: 2, S: 3}, {X: 1, Y: 2, S: 3},
		}},
	} {
		expectTile(t, c.p, c.l, c.want, api.OK)
		checkTile(t, c.p, c.l)
	}
	for _, p := range somePatterns() {
		expectTile(t, p, tiling{0, 0, 50, 50}, p, api.OK)
		expectTile(t, p, tiling{0, 0, 2, 1}, p, api.OK)
	}
}

// P6.5: a displacement that is 0, at a limit or beyond it matters also where there is only one copy.
func TestTileOneCopy(t *testing.T) {
	for _, p := range somePatterns() {
		for _, d := range []int{0, 1, -1, most, -most} {
			expectTile(t, p, tiling{d, 0, 1, 1}, p, api.OK)
			expectTile(t, p, tiling{0, d, 1, 1}, p, api.OK)
			expectTile(t, p, tiling{d, -d, 1, 1}, p, api.OK)
		}
		for _, d := range []int{most + 1, -most - 1, math.MaxInt, math.MinInt} {
			expectTile(t, p, tiling{d, 0, 1, 1}, nil, api.ErrArg)
			expectTile(t, p, tiling{0, d, 1, 1}, nil, api.ErrArg)
			expectTile(t, p, tiling{d, d, 1, 1}, nil, api.ErrArg)
		}
	}
}

// P6.5: no copies are the empty pattern, wherever they would be.
func TestTileNoCopies(t *testing.T) {
	for _, p := range append(somePatterns(), row(0, 0, full, 1)) {
		for _, d := range []int{0, 1, -1, most, -most} {
			for _, n := range []int{0, 1, 2, 50} {
				expectTile(t, p, tiling{d, d, 0, n}, nil, api.OK)
				expectTile(t, p, tiling{d, -d, n, 0}, nil, api.OK)
			}
		}
	}
}

// P6.5: of the empty pattern, no cell is at a position that is not valid.
func TestTileEmpty(t *testing.T) {
	for _, p := range []api.Pattern{nil, {}} {
		for _, d := range []int{0, 1, most, -most} {
			expectTile(t, p, tiling{d, d, 50, 50}, nil, api.OK)
			expectTile(t, p, tiling{d, 0, 3, 1}, nil, api.OK)
			expectTile(t, p, tiling{0, d, 1, 3}, nil, api.OK)
		}
		for _, l := range []tiling{{most + 1, 0, 1, 1}, {0, -most - 1, 1, 1}, {0, 0, 51, 1}, {0, 0, 1, -1}} {
			expectTile(t, p, l, nil, api.ErrArg)
		}
	}
}

// P6.5: all kinds of displacements and numbers of copies.
func TestTileArguments(t *testing.T) {
	steps := []int{math.MinInt, -most - 1, -most, -1, 0, 3, most, most + 1, math.MaxInt}
	counts := []int{math.MinInt, -50, -1, 0, 1, 2, 50, 51, math.MaxInt}
	for _, p := range []api.Pattern{nil, {{S: 5}}, {{X: -most, S: 1}, {X: -3, Y: most, S: 2}}} {
		for _, dx := range steps {
			for _, dy := range steps {
				for _, nx := range counts {
					for _, ny := range counts {
						checkTile(t, p, tiling{dx, dy, nx, ny})
					}
				}
			}
		}
	}
}

// P6.5: the numbers of copies that are allowed, in each direction.
func TestTileNumberOfCopies(t *testing.T) {
	p := api.Pattern{{X: 2, Y: 3, S: 4}}
	for n := -3; n <= 53; n++ {
		wide, high, e := row(2, 3, max(n, 0), 4), api.Pattern(nil), api.OK
		for i := range n {
			high = append(high, api.Cell{X: 2, Y: 3 + i, S: 4})
		}
		if n < 0 || n > 50 {
			wide, high, e = nil, nil, api.ErrArg
		}
		expectTile(t, p, tiling{1, 0, n, 1}, wide, e)
		expectTile(t, p, tiling{0, 1, 1, n}, high, e)
	}
}

// P6.5: copies that reach just to the limits of valid positions, and just over them.
func TestTileLimits(t *testing.T) {
	// Fifty copies with this displacement cover all columns but one.
	const step = (2*most + 1) / 49
	for _, c := range []struct {
		at, d, n int
		e        api.Errno
	}{
		{0, most, 2, api.OK},
		{1, most, 2, api.ErrRange},
		{0, most, 3, api.ErrRange},
		{-most, most, 3, api.OK},
		{1 - most, most, 3, api.ErrRange},
		{-most, most, 4, api.ErrRange},
		{most - 1, 1, 2, api.OK},
		{most, 1, 2, api.ErrRange},
		{most, 1, 1, api.OK},
		{most, 0, 50, api.OK},
		{most - 49, 1, 50, api.OK},
		{most - 48, 1, 50, api.ErrRange},
		{1 - most, step, 50, api.OK},
		{2 - most, step, 50, api.ErrRange},
		{-most, step + 1, 50, api.ErrRange},
		{-most, most, 50, api.ErrRange},
	} {
		// To the right, to the left, downwards and upwards.
		for _, v := range []struct {
			p api.Pattern
			l tiling
		}{
			{api.Pattern{{X: c.at, Y: 7, S: 1}}, tiling{c.d, 1, c.n, 1}},
			{api.Pattern{{X: -c.at, Y: 7, S: 1}}, tiling{-c.d, 1, c.n, 2}},
			{api.Pattern{{X: 7, Y: c.at, S: 1}}, tiling{1, c.d, 1, c.n}},
			{api.Pattern{{X: 7, Y: -c.at, S: 1}}, tiling{1, -c.d, 2, c.n}},
		} {
			want, _ := tileModel(v.p, v.l)
			expectTile(t, v.p, v.l, want, c.e)
		}
	}
}

// P6.5: it is enough that one cell of one copy is not at a valid position.
func TestTileLimitsOfOneCell(t *testing.T) {
	p := api.Pattern{{X: -4, Y: -3, S: 1}, {X: 9, Y: -1, S: 2}, {X: 2, Y: 8, S: 3}}
	for _, c := range []struct {
		l tiling
		e api.Errno
	}{
		{tiling{most - 9, 0, 2, 1}, api.OK},
		{tiling{most - 8, 0, 2, 1}, api.ErrRange},
		{tiling{4 - most, 0, 2, 1}, api.OK},
		{tiling{3 - most, 0, 2, 1}, api.ErrRange},
		{tiling{0, most - 8, 1, 2}, api.OK},
		{tiling{0, most - 7, 1, 2}, api.ErrRange},
		{tiling{0, 3 - most, 1, 2}, api.OK},
		{tiling{0, 2 - most, 1, 2}, api.ErrRange},
		{tiling{most - 9, most - 8, 2, 2}, api.OK},
		{tiling{most - 9, most - 7, 2, 2}, api.ErrRange},
		{tiling{most - 8, most - 8, 2, 2}, api.ErrRange},
	} {
		want, _ := tileModel(p, c.l)
		expectTile(t, p, c.l, want, c.e)
	}
}

// P6.5: MaxCells cells in the result, and one more.
func TestTileSize(t *testing.T) {
	for _, c := range []struct {
		p api.Pattern
		l tiling
		n int
	}{
		{row(0, 0, 2, 1), tiling{2, 1, 50, 50}, full},
		{row(0, 0, 3, 1), tiling{2, 1, 50, 50}, -1},
		{row(0, 0, 3, 1), tiling{3, 1, 50, 50}, -1},
		{row(0, 0, 100, 1), tiling{100, 9, 50, 1}, full},
		{row(0, 0, 101, 1), tiling{100, 9, 50, 1}, -1},
		{row(0, 0, 101, 1), tiling{-100, 9, 50, 1}, -1},
		{row(0, 0, 101, 1), tiling{100, 9, 49, 1}, 4901},
		{row(0, 0, 100, 1), tiling{9, 1, 1, 50}, full},
		{row(0, 0, 100, 1), tiling{9, -1, 1, 50}, full},
		{row(0, 0, 101, 1), tiling{9, 1, 1, 50}, -1},
		{row(0, 0, full, 1), tiling{9, 9, 1, 1}, full},
		{row(0, 0, full-1, 1), tiling{1, 0, 2, 1}, full},
		{row(0, 0, full-1, 1), tiling{1, 0, 3, 1}, -1},
		{row(0, 0, full, 1), tiling{1, 0, 2, 1}, -1},
		{row(0, 0, full, 1), tiling{0, 1, 1, 2}, -1},
		{row(0, 0, full, 1), tiling{0, 0, 50, 50}, full},
		{row(0, 0, 2500, 1), tiling{2500, 1, 2, 1}, full},
		{row(0, 0, 2500, 1), tiling{2500, 1, 2, 2}, -1},
		{row(0, 0, 2451, 1), tiling{1, 1, 50, 2}, full},
		{row(0, 0, 2452, 1), tiling{1, 1, 50, 2}, -1},
	} {
		tiles, e := algebra.Tile(c.p, c.l.dx, c.l.dy, c.l.nx, c.l.ny)
		checkNumber(t, tiles, e, c.n)
		checkTile(t, c.p, c.l)
	}
}

// P6.5: where several errors apply, ErrArg comes first, and ErrRange before ErrSize.
func TestTileOrderOfErrors(t *testing.T) {
	many := row(0, 0, 101, 1)
	high := append(row(0, 0, full-1, 1), api.Cell{Y: most, S: 1})
	// Two copies of these are too many cells, and the third one is beyond the limit.
	right, left, low := row(most-full, 0, full, 1), row(1-most, 0, full, 1), row(0, most-1, full, 1)
	for _, l := range []tiling{{100, 9, 50, 1}, {most, most, 50, 50}, {0, 0, 0, 0}, {1, 1, 1, 1}, {most + 1, 0, 1, 1}, {0, 0, -1, 51}} {
		for _, p := range wrongLists() {
			expectTile(t, p, l, nil, api.ErrArg)
		}
	}
	for _, c := range []struct {
		p api.Pattern
		l tiling
		e api.Errno
	}{
		{many, tiling{100, 0, 51, 1}, api.ErrArg},
		{many, tiling{100, most + 1, 50, 1}, api.ErrArg},
		{many, tiling{-most - 1, 1, 50, 1}, api.ErrArg},
		{many, tiling{100, 1, 50, -1}, api.ErrArg},
		{corners, tiling{1, 1, 2, 51}, api.ErrArg},
		{corners, tiling{1, math.MinInt, 2, 2}, api.ErrArg},
		{corners, tiling{1, math.MinInt, 0, 2}, api.ErrArg},
		{corners, tiling{1, 1, 0, math.MaxInt}, api.ErrArg},
		{many, tiling{100, 1, 50, 1}, api.ErrSize},
		{many, tiling{100, most, 50, 2}, api.ErrSize},
		{many, tiling{100, most, 50, 3}, api.ErrRange},
		{many, tiling{100, -most, 50, 3}, api.ErrRange},
		{many, tiling{most - 100, 1, 2, 50}, api.ErrSize},
		{many, tiling{most - 99, 1, 2, 50}, api.ErrRange},
		{high, tiling{1, 0, 3, 1}, api.ErrSize},
		{high, tiling{1, 1, 3, 1}, api.ErrSize},
		{high, tiling{1, 1, 3, 2}, api.ErrRange},
		{high, tiling{0, 1, 1, 2}, api.ErrRange},
		{right, tiling{1, 0, 2, 1}, api.ErrSize},
		{right, tiling{1, 0, 3, 1}, api.ErrRange},
		{left, tiling{-1, 0, 2, 1}, api.ErrSize},
		{left, tiling{-1, 0, 3, 1}, api.ErrRange},
		{low, tiling{0, 1, 1, 2}, api.ErrSize},
		{low, tiling{0, 1, 1, 3}, api.ErrRange},
	} {
		expectTile(t, c.p, c.l, nil, c.e)
		checkTile(t, c.p, c.l)
	}
}

// P6.5
func TestTileRandom(t *testing.T) {
	rng := rand.New(rand.NewSource(65))
	for range 2000 {
		l := tiling{rng.Intn(9) - 4, rng.Intn(9) - 4, rng.Intn(6), rng.Intn(6)}
		checkTile(t, near(rng, 12), l)
		far := tiling{rng.Intn(most), -rng.Intn(most), rng.Intn(4), rng.Intn(4)}
		checkTile(t, near(rng, 12), far)
		checkTile(t, anywhere(rng, 4), tiling{rng.Intn(9) - 4, rng.Intn(most), 1 + rng.Intn(50), 1 + rng.Intn(2)})
	}
}
