package pattern_test

import (
	"math"
	"math/rand"
	"slices"
	"testing"

	"cellular/api"
	"cellular/pattern"
)

// P5.1
func TestRightExamples(t *testing.T) {
	for _, p := range somePatterns() {
		if !pattern.Right(p) {
			t.Errorf("the pattern %v is valid", short(p))
		}
	}
	for _, p := range wrongLists() {
		if pattern.Right(p) {
			t.Errorf("the list of %d cells %v is not valid", len(p), short(p))
		}
	}
}

// P5.1
func TestRightSingleCells(t *testing.T) {
	for _, x := range coords {
		for _, y := range coords {
			for _, s := range states {
				p := api.Pattern{{X: x, Y: y, S: s}}
				if got := pattern.Right(p); got != isPattern(p) {
					t.Errorf("Right(%v) is %v", p, got)
				}
			}
		}
	}
}

// P5.1
func TestRightPairs(t *testing.T) {
	for _, x := range coords {
		for _, y := range coords {
			for _, s := range []int{0, 1, 7, 8} {
				for _, first := range []api.Cell{{S: 3}, {X: -1, Y: 1, S: 1}, {X: most, Y: -most, S: 1}, {X: most, Y: most, S: 1}} {
					p := api.Pattern{first, {X: x, Y: y, S: s}}
					if got := pattern.Right(p); got != isPattern(p) {
						t.Errorf("Right(%v) is %v", p, got)
					}
				}
			}
		}
	}
}

// P5.1: a cell that is not valid counts wherever it is in the list.
func TestRightLists(t *testing.T) {
	rng := rand.New(rand.NewSource(51))
	for _, p := range someLists(rng, 3000) {
		if got := pattern.Right(p); got != isPattern(p) {
			t.Errorf("Right(%v) is %v", short(p), got)
		}
	}
	good := block(0, 0, 3, 3)
	for i := range good {
		for _, s := range states {
			p := slices.Clone(good)
			p[i].S = s
			if got := pattern.Right(p); got != isPattern(p) {
				t.Errorf("Right(%v) is %v", p, got)
			}
		}
		for k := range good {
			p := slices.Clone(good)
			p[i], p[k] = p[k], p[i]
			if got := pattern.Right(p); got != (i == k) {
				t.Errorf("Right(%v) is %v", p, got)
			}
		}
	}
}

// P5.1: the limit of cells.
func TestRightNumberOfCells(t *testing.T) {
	for n, want := range map[int]bool{0: true, 1: true, full - 1: true, full: true, full + 1: false, full + 2: false, 2 * full: false} {
		if got := pattern.Right(row(-3, 5, n)); got != want {
			t.Errorf("Right of %d cells is %v", n, got)
		}
	}
}

// P5.1
func TestGetExamples(t *testing.T) {
	p := api.Pattern{{X: 1, S: 2}, {X: 5, S: 3}, {X: 1, Y: 1, S: 4}}
	for _, c := range []struct{ x, y, want int }{
		{1, 0, 2}, {5, 0, 3}, {1, 1, 4}, {0, 0, 0}, {0, 1, 0}, {5, 1, 0}, {1, 5, 0}, {2, 0, 0}, {-1, 0, 0}, {1, -1, 0}, {1, 2, 0},
		{math.MinInt, 0, 0}, {math.MaxInt, 0, 0}, {1, math.MinInt, 0}, {1, math.MaxInt, 0},
	} {
		if got := pattern.Get(p, c.x, c.y); got != c.want {
			t.Errorf("Get(%v, %d, %d) is %d, not %d", p, c.x, c.y, got, c.want)
		}
	}
	if got := pattern.Get(nil, 0, 0); got != 0 {
		t.Error("the empty pattern has the state", got)
	}
}

// P5.1: the first of several cells counts, whatever its state is and in whatever order the cells are.
func TestGetOfAnyList(t *testing.T) {
	for _, c := range []struct {
		l          api.Pattern
		x, y, want int
	}{
		{api.Pattern{{S: 1}, {S: 2}}, 0, 0, 1},
		{api.Pattern{{S: 2}, {S: 1}}, 0, 0, 2},
		{api.Pattern{{}, {S: 1}}, 0, 0, 0},
		{api.Pattern{{S: 99}, {S: 1}}, 0, 0, 99},
		{api.Pattern{{S: -5}, {S: 1}}, 0, 0, -5},
		{api.Pattern{{X: 9, Y: 9, S: 4}, {X: 3, S: 5}, {X: 1, S: 6}, {X: 9, Y: 9, S: 7}}, 1, 0, 6},
		{api.Pattern{{X: 9, Y: 9, S: 4}, {X: 3, S: 5}, {X: 1, S: 6}, {X: 9, Y: 9, S: 7}}, 9, 9, 4},
		{api.Pattern{{X: math.MinInt, Y: math.MaxInt, S: math.MinInt}}, math.MinInt, math.MaxInt, math.MinInt},
		{api.Pattern{{X: math.MaxInt, Y: math.MinInt, S: math.MaxInt}}, math.MaxInt, math.MinInt, math.MaxInt},
		{row(0, 0, full+9), full + 8, 0, 1},
	} {
		if got := pattern.Get(c.l, c.x, c.y); got != c.want {
			t.Errorf("Get(%v, %d, %d) is %d, not %d", short(c.l), c.x, c.y, got, c.want)
		}
	}
}

// P5.1
func TestGetRandom(t *testing.T) {
	rng := rand.New(rand.NewSource(52))
	for _, l := range someLists(rng, 500) {
		places := append(slices.Clone(short(l)), cell(rng), nearCell(rng, 1))
		for _, c := range places {
			if got := pattern.Get(l, c.X, c.Y); got != getModel(l, c.X, c.Y) {
				t.Errorf("Get(%v, %d, %d) is %d", short(l), c.X, c.Y, got)
			}
		}
	}
}

// P5.1
func TestTopExamples(t *testing.T) {
	for _, c := range []struct {
		l    api.Pattern
		want int
	}{
		{nil, 0},
		{api.Pattern{}, 0},
		{api.Pattern{{S: 1}}, 1},
		{api.Pattern{{S: 2}, {X: 1, Y: 1, S: 1}}, 2},
		{api.Pattern{{S: 1}, {X: 1, S: 7}, {X: 2, S: 3}}, 7},
		{api.Pattern{{}}, 0},
		{api.Pattern{{S: -1}}, 0},
		{api.Pattern{{S: math.MinInt}, {S: -4}}, 0},
		{api.Pattern{{S: 8}, {S: 8}, {X: -3, S: 2}}, 8},
		{api.Pattern{{X: math.MinInt, S: 5}, {S: math.MaxInt}, {S: -1}}, math.MaxInt},
	} {
		if got := pattern.Top(c.l); got != c.want {
			t.Errorf("Top(%v) is %d, not %d", c.l, got, c.want)
		}
	}
}

// P5.1
func TestTopRandom(t *testing.T) {
	rng := rand.New(rand.NewSource(53))
	for _, l := range someLists(rng, 1000) {
		if got := pattern.Top(l); got != topModel(l) {
			t.Errorf("Top(%v) is %d, not %d", short(l), got, topModel(l))
		}
	}
}

// P5.1
func TestBoxExamples(t *testing.T) {
	for _, c := range []struct {
		p    api.Pattern
		want api.Box
	}{
		{api.Pattern{{S: 2}, {X: 1, Y: 1, S: 1}}, api.Box{W: 2, H: 2}},
		{api.Pattern{{X: 1, S: 1}, {X: 2, Y: 1, S: 1}, {Y: 2, S: 1}, {X: 1, Y: 2, S: 1}, {X: 2, Y: 2, S: 1}}, api.Box{W: 3, H: 3}},
		{api.Pattern{{X: -4, Y: 9, S: 7}}, api.Box{X: -4, Y: 9, W: 1, H: 1}},
		{api.Pattern{{X: 4, Y: -1, S: 1}, {X: 2, Y: 3, S: 1}}, api.Box{X: 2, Y: -1, W: 3, H: 5}},
		{api.Pattern{{X: -4, Y: -1, S: 1}, {X: 7, Y: 1, S: 1}, {X: 2, Y: 3, S: 1}}, api.Box{X: -4, Y: -1, W: 12, H: 5}},
		{row(3, -6, full), api.Box{X: 3, Y: -6, W: full, H: 1}},
		{api.Pattern{{X: most, Y: -most, S: 1}, {X: -most, Y: most, S: 1}}, api.Box{X: -most, Y: -most, W: shift + 1, H: shift + 1}},
		{api.Pattern{{X: most, Y: most, S: 1}}, api.Box{X: most, Y: most, W: 1, H: 1}},
	} {
		if got, ok := pattern.Box(c.p); !ok || got != c.want {
			t.Errorf("Box(%v) is %v, %v, not %v", short(c.p), got, ok, c.want)
		}
	}
}

// P5.1: there is no box of the empty pattern, and of a list that is not valid.
func TestBoxNothing(t *testing.T) {
	for _, p := range append(wrongLists(), nil, api.Pattern{}) {
		if got, ok := pattern.Box(p); ok || got != (api.Box{}) {
			t.Errorf("Box(%v) is %v, %v", short(p), got, ok)
		}
	}
}

// P5.1
func TestBoxRandom(t *testing.T) {
	rng := rand.New(rand.NewSource(54))
	for _, l := range someLists(rng, 2000) {
		want, wantOK := boxModel(l)
		if got, ok := pattern.Box(l); got != want || ok != wantOK {
			t.Errorf("Box(%v) is %v, %v, not %v, %v", short(l), got, ok, want, wantOK)
		}
	}
}

// P5.1: the functions that examine a list do not change it.
func TestListsAreOnlyRead(t *testing.T) {
	rng := rand.New(rand.NewSource(55))
	for _, l := range someLists(rng, 50) {
		unchanged(t, l, func(l []api.Cell) {
			pattern.Right(l)
			pattern.Get(l, 0, 0)
			pattern.Box(l)
			pattern.Top(l)
			pattern.Same(l, l)
			pattern.Compare(l, l)
		})
	}
}
