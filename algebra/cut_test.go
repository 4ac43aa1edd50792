package algebra_test

import (
	"fmt"
	"math"
	"math/rand"
	"testing"

	"cellular/algebra"
	"cellular/api"
)

// wrongBoxes are boxes of which a side or a position is not valid.
var wrongBoxes = []api.Box{
	{}, {W: 3}, {H: 3}, {W: -1, H: 2}, {W: 2, H: -1}, {X: 2, Y: 2, W: -2, H: -2},
	{X: -5, Y: -5, W: most + 7, H: 9}, {X: -5, Y: -5, W: 9, H: most + 7}, {X: -most - 1, Y: -5, W: most + 9, H: 9},
	{X: -5, Y: -most - 1, W: 9, H: most + 9}, {X: -most, Y: -5, W: 2*most + 2, H: 9}, {X: -5, Y: -most, W: 9, H: 2*most + 2},
	{X: -most - 1, Y: -most - 1, W: 2*most + 3, H: 2*most + 3}, {X: most + 1, Y: most + 1, W: 1, H: 1},
	{W: math.MaxInt, H: 1}, {W: 1, H: math.MaxInt}, {W: math.MinInt, H: 1}, {W: 1, H: math.MinInt},
	{X: math.MinInt, W: 1, H: 1}, {Y: math.MinInt, W: 1, H: 1}, {X: math.MaxInt, W: 1, H: 1}, {Y: math.MaxInt, W: 1, H: 1},
	{X: -1, Y: -1, W: math.MaxInt, H: math.MaxInt}, {X: math.MinInt, Y: math.MinInt, W: math.MaxInt, H: math.MaxInt},
	{X: math.MaxInt, Y: math.MaxInt, W: math.MaxInt, H: math.MaxInt}, {X: math.MinInt, Y: math.MinInt, W: math.MinInt, H: math.MinInt},
}

// everything is the box of all valid positions.
var everything = api.Box{X: -most, Y: -most, W: 2*most + 1, H: 2*most + 1}

// expectCut compares Cut with what is expected.
func expectCut(t *testing.T, p api.Pattern, b api.Box, want api.Pattern) {
	t.Helper()
	checkCall(t, fmt.Sprint("Cut by ", b), result{p: want}, func(l []api.Pattern) result { return result{p: algebra.Cut(l[0], b)} }, p)
}

// checkCut compares Cut with the model.
func checkCut(t *testing.T, p api.Pattern, b api.Box) {
	t.Helper()
	expectCut(t, p, b, cutModel(p, b))
}

// P6.3
func TestCutExamples(t *testing.T) {
	p := api.Pattern{{X: 3, Y: -1, S: 5}, {S: 1}, {X: 1, S: 2}, {X: 2, S: 3}, {X: -5, Y: 1, S: 4}, {X: 1, Y: 1, S: 6}}
	for _, c := range []struct {
		b    api.Box
		want api.Pattern
	}{
		{api.Box{W: 2, H: 1}, p[1:3]},
		{api.Box{W: 2, H: 2}, api.Pattern{p[1], p[2], p[5]}},
		{api.Box{X: -5, Y: -1, W: 9, H: 3}, p},
		{api.Box{X: -9, Y: -9, W: 30, H: 30}, p},
		{everything, p},
		{api.Box{X: 3, Y: 0, W: 5, H: 5}, nil},
		{api.Box{X: -5, Y: 0, W: 5, H: 1}, nil},
		{api.Box{X: 1, Y: 2, W: 1, H: 5}, nil},
		{api.Box{X: 2, Y: -1, W: 2, H: 1}, p[:1]},
		{api.Box{X: -5, Y: 1, W: 1, H: 1}, p[4:5]},
	} {
		expectCut(t, p, c.b, c.want)
		checkCut(t, p, c.b)
	}
}

// P6.3: cells just inside and just outside of each edge and each corner.
func TestCutEdges(t *testing.T) {
	for _, b := range []api.Box{
		{X: 3, Y: -2, W: 5, H: 4}, {X: -7, Y: 6, W: 2, H: 9}, {W: 1, H: 1}, {X: 1 - most, Y: 1 - most, W: 3, H: 4},
		{X: most - 4, Y: most - 2, W: 4, H: 2}, {X: 1 - most, Y: 1 - most, W: 2*most - 1, H: 2*most - 1},
	} {
		right, below := b.X+b.W-1, b.Y+b.H-1
		for _, y := range []int{b.Y - 1, b.Y, below, below + 1} {
			for _, x := range []int{b.X - 1, b.X, right, right + 1} {
				p := api.Pattern{{X: x, Y: y, S: 4}}
				want := p
				if x < b.X || x > right || y < b.Y || y > below {
					want = nil
				}
				expectCut(t, p, b, want)
			}
		}
	}
}

// P6.3: all cells of a block around a box and of one within it.
func TestCutBlocks(t *testing.T) {
	b := api.Box{X: -1, Y: 2, W: 4, H: 3}
	expectCut(t, block(-1, 2, 4, 3), b, block(-1, 2, 4, 3))
	expectCut(t, row(-2, 3, 6, 5), b, row(-1, 3, 4, 5))
	checkCut(t, block(-2, 1, 6, 5), b)
	if got := len(algebra.Cut(block(-2, 1, 6, 5), b)); got != 12 {
		t.Error("a block that is larger by one cell on each side leaves", got)
	}
}

// P6.3: the corners of the valid positions.
func TestCutLimits(t *testing.T) {
	for _, c := range []struct {
		b    api.Box
		want api.Pattern
	}{
		{everything, corners},
		{api.Box{X: -most, Y: -most, W: 2 * most, H: 2*most + 1}, api.Pattern{corners[0], corners[2]}},
		{api.Box{X: 1 - most, Y: -most, W: 2 * most, H: 2*most + 1}, api.Pattern{corners[1], corners[3]}},
		{api.Box{X: -most, Y: -most, W: 2*most + 1, H: 2 * most}, corners[:2]},
		{api.Box{X: -most, Y: 1 - most, W: 2*most + 1, H: 2 * most}, corners[2:]},
		{api.Box{X: most, Y: most, W: 1, H: 1}, corners[3:]},
		{api.Box{X: -most, Y: -most, W: 1, H: 1}, corners[:1]},
		{api.Box{X: 1 - most, Y: 1 - most, W: 2*most - 1, H: 2*most - 1}, nil},
	} {
		expectCut(t, corners, c.b, c.want)
	}
}

// P6.3: a box that is not valid holds nothing, wherever its positions are.
func TestCutWrongBoxes(t *testing.T) {
	for _, b := range wrongBoxes {
		for _, p := range append(somePatterns(), wrongLists()...) {
			expectCut(t, p, b, nil)
		}
	}
}

// P6.3
func TestCutOfWrongLists(t *testing.T) {
	for _, l := range wrongLists() {
		for _, b := range []api.Box{everything, {W: 1, H: 1}, {X: -9, Y: -9, W: 20, H: 20}} {
			expectCut(t, l, b, nil)
		}
	}
}

// P6.3: patterns of all kinds, the empty one and the largest ones among them.
func TestCutOfSomePatterns(t *testing.T) {
	for _, p := range somePatterns() {
		expectCut(t, p, everything, p)
		for _, b := range []api.Box{
			{W: 1, H: 1}, {X: -2000, Y: 7, W: 3000, H: 1}, {X: most - 20, Y: -most, W: 21, H: 20}, {X: -2, Y: -1, W: 3, H: 2},
		} {
			checkCut(t, p, b)
		}
	}
}

// P6.3
func TestCutRandom(t *testing.T) {
	rng := rand.New(rand.NewSource(63))
	for range 3000 {
		checkCut(t, near(rng, 30), api.Box{X: rng.Intn(9) - 5, Y: rng.Intn(7) - 4, W: rng.Intn(9), H: rng.Intn(7)})
		checkCut(t, anywhere(rng, 20), api.Box{X: -rng.Intn(most), Y: -rng.Intn(most), W: rng.Intn(2 * most), H: rng.Intn(2 * most)})
	}
}
