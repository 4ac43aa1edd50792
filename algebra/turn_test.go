package algebra_test

import (
	"fmt"
	"math"
	"math/rand"
	"slices"
	"testing"

	"cellular/algebra"
	"cellular/api"
	"cellular/pattern"
	"cellular/symmetry"
)

// numbers are numbers of symmetries, also at the limits of int.
var numbers = []int{
	0, 1, 2, 3, 4, 5, 6, 7, 8, 9, 10, 11, 12, 13, 14, 15, 16, 100, -1, -2, -3, -4, -5, -6, -7, -8, -9, -16, -17,
	math.MinInt, math.MinInt + 1, math.MinInt + 4, math.MinInt + 7, math.MaxInt, math.MaxInt - 1, math.MaxInt - 3, math.MaxInt - 4,
}

// expectTurn compares Turn with what is expected.
func expectTurn(t *testing.T, k int, p, want api.Pattern, wantError api.Errno) {
	t.Helper()
	checkCall(t, fmt.Sprint("Turn by ", k), result{want, wantError}, func(l []api.Pattern) result {
		got, e := algebra.Turn(k, l[0])
		return result{got, e}
	}, p)
}

// checkTurn compares Turn with the model.
func checkTurn(t *testing.T, k int, p api.Pattern) {
	t.Helper()
	want, e := turnModel(k, p)
	expectTurn(t, k, p, want, e)
}

// expectHome compares Home with what is expected.
func expectHome(t *testing.T, p, want api.Pattern) {
	t.Helper()
	checkCall(t, "Home", result{p: want}, func(l []api.Pattern) result { return result{p: algebra.Home(l[0])} }, p)
}

// P6.4: all numbers from 0 to 7, and others with the same remainder.
func TestTurnExamples(t *testing.T) {
	expectTurn(t, 1, api.Pattern{{X: 1, S: 1}, {X: 2, S: 1}}, api.Pattern{{Y: 1, S: 1}, {Y: 2, S: 1}}, api.OK)
	p := api.Pattern{{X: 1, Y: -2, S: 5}, {X: 2, S: 1}, {X: 3, S: 2}}
	for k, want := range []api.Pattern{
		{{X: 1, Y: -2, S: 5}, {X: 2, S: 1}, {X: 3, S: 2}},
		{{X: 2, Y: 1, S: 5}, {Y: 2, S: 1}, {Y: 3, S: 2}},
		{{X: -3, S: 2}, {X: -2, S: 1}, {X: -1, Y: 2, S: 5}},
		{{Y: -3, S: 2}, {Y: -2, S: 1}, {X: -2, Y: -1, S: 5}},
		{{X: -1, Y: -2, S: 5}, {X: -3, S: 2}, {X: -2, S: 1}},
		{{Y: -3, S: 2}, {Y: -2, S: 1}, {X: 2, Y: -1, S: 5}},
		{{X: 2, S: 1}, {X: 3, S: 2}, {X: 1, Y: 2, S: 5}},
		{{X: -2, Y: 1, S: 5}, {Y: 2, S: 1}, {Y: 3, S: 2}},
	} {
		for _, number := range []int{k, k + 8, k - 8, k + 800, k - 800, math.MinInt + k, math.MaxInt - 7 + k} {
			expectTurn(t, number, p, want, api.OK)
			checkTurn(t, number, p)
		}
	}
}

// P6.4: the empty pattern, cells at the limits, and as many cells as possible.
func TestTurnOfSomePatterns(t *testing.T) {
	for _, k := range numbers {
		for _, p := range somePatterns() {
			checkTurn(t, k, p)
		}
		for _, none := range []api.Pattern{nil, {}} {
			expectTurn(t, k, none, nil, api.OK)
		}
	}
	for k, want := range []int{1, 3, 4, 2, 2, 4, 3, 1} {
		turned, e := algebra.Turn(k, corners)
		if e != api.OK || len(turned) != 4 || turned[0] != (api.Cell{X: -most, Y: -most, S: want}) {
			t.Errorf("Turn by %d of the corners is %v, %d", k, turned, e)
		}
	}
}

// P6.4
func TestTurnOfWrongLists(t *testing.T) {
	for _, k := range numbers {
		for _, l := range wrongLists() {
			expectTurn(t, k, l, nil, api.ErrArg)
		}
	}
}

// P6.4
func TestTurnRandom(t *testing.T) {
	rng := rand.New(rand.NewSource(64))
	for range 300 {
		for _, k := range numbers {
			checkTurn(t, k, near(rng, 25))
			checkTurn(t, k, anywhere(rng, 10))
		}
	}
}

// P6.4: each cell is where symmetry.Apply maps it.
func TestTurnCells(t *testing.T) {
	rng := rand.New(rand.NewSource(68))
	for range 100 {
		p := near(rng, 25)
		for _, k := range numbers {
			turned, e := algebra.Turn(k, p)
			if e != api.OK || len(turned) != len(p) || !pattern.Right(turned) {
				t.Fatalf("Turn by %d of %v is %v, %d", k, p, turned, e)
			}
			for _, c := range p {
				at := symmetry.Apply(k, place(c))
				if got := pattern.Get(turned, at.X, at.Y); got != c.S {
					t.Errorf("Turn by %d of %v has the state %d at %v", k, p, got, at)
				}
			}
		}
	}
}

// P6.8
func TestTurnTwice(t *testing.T) {
	rng := rand.New(rand.NewSource(69))
	list := []api.Pattern{nil, corners, corners[1:], row(-most, 3, full, 2), block(-2, 5, 3, 4)}
	for range 20 {
		list = append(list, near(rng, 12), anywhere(rng, 8))
	}
	for _, p := range list {
		for _, a := range numbers {
			first, e := algebra.Turn(a, p)
			back, f := algebra.Turn(symmetry.Inverse(a), first)
			if e != api.OK || f != api.OK || !pattern.Same(back, p) {
				t.Errorf("Turn by %d of %v and back is %v", a, short(p), short(back))
			}
			for b := range 8 {
				second, e := algebra.Turn(b, first)
				want, f := algebra.Turn(symmetry.Compose(a, b), p)
				if e != api.OK || f != api.OK || !pattern.Same(second, want) {
					t.Errorf("Turn by %d and %d of %v is %v, not %v", a, b, short(p), short(second), short(want))
				}
			}
		}
	}
}

// P6.4
func TestHomeExamples(t *testing.T) {
	for _, c := range []struct{ p, want api.Pattern }{
		{api.Pattern{{Y: 1, S: 1}, {Y: 2, S: 1}}, api.Pattern{{S: 1}, {Y: 1, S: 1}}},
		{api.Pattern{{X: 7, Y: -2, S: 1}, {X: 3, Y: 5, S: 2}}, api.Pattern{{X: 4, S: 1}, {Y: 7, S: 2}}},
		{api.Pattern{{X: -7, Y: -2, S: 1}, {X: -9, Y: -1, S: 2}}, api.Pattern{{X: 2, S: 1}, {Y: 1, S: 2}}},
		{api.Pattern{{X: 4, S: 3}, {Y: 3, S: 4}}, api.Pattern{{X: 4, S: 3}, {Y: 3, S: 4}}},
		{api.Pattern{{X: 5, S: 3}, {X: 1, Y: 3, S: 4}}, api.Pattern{{X: 4, S: 3}, {Y: 3, S: 4}}},
		{api.Pattern{{X: 4, Y: 1, S: 3}, {Y: 4, S: 4}}, api.Pattern{{X: 4, S: 3}, {Y: 3, S: 4}}},
		{api.Pattern{{X: 3, Y: 3, S: 7}}, api.Pattern{{S: 7}}},
		{row(-17, -most, full, 3), row(0, 0, full, 3)},
	} {
		expectHome(t, c.p, c.want)
		expectHome(t, c.want, c.want)
	}
}

// P6.4: the empty pattern, and lists that are not valid, stay as they are.
func TestHomeOfItself(t *testing.T) {
	for _, p := range append(wrongLists(), nil, api.Pattern{}) {
		expectHome(t, p, p)
	}
	for _, p := range []api.Pattern{{{X: 5, Y: 6, S: 1}, {X: 4, Y: 6, S: 1}}, {{X: 5, Y: 6, S: 8}}, row(5, 6, full+1, 1)} {
		expectHome(t, p, p)
	}
}

// P6.4: cells at the limits, of which some are beyond the valid positions at home.
func TestHomeLimits(t *testing.T) {
	const wide = 2 * most
	for _, c := range []struct{ p, want api.Pattern }{
		{api.Pattern{{X: most, Y: most, S: 1}}, api.Pattern{{S: 1}}},
		{api.Pattern{{X: -most, Y: -most, S: 1}}, api.Pattern{{S: 1}}},
		{api.Pattern{{X: -most, S: 1}, {S: 2}}, api.Pattern{{S: 1}, {X: most, S: 2}}},
		{api.Pattern{{X: -most, S: 1}, {X: 1, S: 2}}, api.Pattern{{S: 1}, {X: most + 1, S: 2}}},
		{api.Pattern{{Y: -most, S: 1}, {Y: 1, S: 2}}, api.Pattern{{S: 1}, {Y: most + 1, S: 2}}},
		{api.Pattern{{Y: -most, S: 1}, {Y: most, S: 2}}, api.Pattern{{S: 1}, {Y: wide, S: 2}}},
		{corners, api.Pattern{{S: 1}, {X: wide, S: 2}, {Y: wide, S: 3}, {X: wide, Y: wide, S: 4}}},
		{corners[1:3], api.Pattern{{X: wide, S: 2}, {Y: wide, S: 3}}},
	} {
		expectHome(t, c.p, c.want)
	}
}

// P6.4
func TestHomeRandom(t *testing.T) {
	rng := rand.New(rand.NewSource(70))
	list := somePatterns()
	for range 2000 {
		list = append(list, near(rng, 6), near(rng, 25), anywhere(rng, 10))
	}
	for _, p := range list {
		expectHome(t, p, homeModel(p))
	}
}

// P6.9
func TestHomeOfMovedPatterns(t *testing.T) {
	rng := rand.New(rand.NewSource(71))
	list := []api.Pattern{nil, row(0, 0, full, 1), block(0, 0, 50, 100), {corners[0], {X: most - 1, Y: most - 1, S: 2}}}
	for range 300 {
		list = append(list, near(rng, 6), near(rng, 25))
	}
	steps := []api.Point{
		{}, {X: 1}, {X: -1}, {Y: 1}, {Y: -1}, {X: 1, Y: 1}, {X: -9, Y: 11}, {X: most - 10, Y: 10 - most}, {X: 10 - most, Y: most - 10},
	}
	for _, p := range list {
		home := algebra.Home(p)
		if len(home) != len(p) || !slices.EqualFunc(home, p, func(c, d api.Cell) bool { return c.S == d.S }) {
			t.Errorf("Home of %v is %v", short(p), short(home))
		}
		for _, d := range steps {
			moved, e := pattern.Shift(p, d.X, d.Y)
			if e != api.OK {
				continue
			}
			if got := algebra.Home(moved); !pattern.Same(got, home) {
				t.Errorf("Home of %v moved by %v is %v, not %v", short(p), d, short(got), short(home))
			}
		}
	}
}
