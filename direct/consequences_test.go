package direct_test

import (
	"fmt"
	"math/rand"
	"slices"
	"testing"

	"cellular/algebra"
	"cellular/api"
	"cellular/direct"
	"cellular/hood"
	"cellular/pattern"
)

// manyRules calls a function with random rules on all neighbourhoods with each number of states.
func manyRules(seed int64, times int, visit func(rng *rand.Rand, own rule)) {
	rng := rand.New(rand.NewSource(seed))
	for _, l := range allHoods() {
		for states := 2; states <= api.MaxStates; states++ {
			for range times {
				visit(rng, randomRule(rng, states, l))
			}
		}
	}
}

// P20.5: all cells of the box of a pattern and of its surroundings.
func TestCells(t *testing.T) {
	alone := 0
	manyRules(210, 3, func(rng *rand.Rand, own rule) {
		p := randomPattern(rng, -4, -4, 12, 9, own.States)
		next, e := direct.Step(own.Tree, p)
		if e != api.OK {
			t.Fatalf("Step of %v returns the error %d", short(p), e)
		}
		visited, m := 0, mapOf(p)
		for x := -9; x <= 9; x++ {
			for y := -9; y <= 9; y++ {
				s, e := direct.Next(own.Tree, p, x, y)
				if e != api.OK || s != pattern.Get(next, x, y) {
					t.Errorf("Next at (%d, %d) of %v is %d with the error %d, and Step %v", x, y, short(p), s, e, short(next))
				}
				if s != 0 {
					visited++
				}
				if !slices.ContainsFunc(own.Hood, func(d api.Point) bool { return m[api.Point{X: x + d.X, Y: y + d.Y}] != 0 }) {
					alone++
					if s != 0 {
						t.Errorf("the cell (%d, %d), without a cell of %v in its neighbourhood, becomes %d", x, y, short(p), s)
					}
				}
			}
		}
		// There are no other cells.
		if visited != len(next) {
			t.Errorf("Step of %v is %v, of which Next leads to %d cells", short(p), short(next), visited)
		}
	})
	if alone < 10000 {
		t.Errorf("only %d cells have no cell of the pattern in their neighbourhood", alone)
	}
}

// P20.5: cells at the limits of the valid positions.
func TestCellsAtLimits(t *testing.T) {
	steps := 0
	manyRules(211, 3, func(rng *rand.Rand, own rule) {
		c := limitCorners[rng.Intn(len(limitCorners))]
		p := randomPattern(rng, c.X, c.Y, 3, 5, own.States)
		next, e := direct.Step(own.Tree, p)
		if e != api.OK {
			return
		}
		steps++
		for x := c.X; x < c.X+5; x++ {
			for y := c.Y; y < c.Y+5; y++ {
				if s, e := direct.Next(own.Tree, p, x, y); e != api.OK || s != pattern.Get(next, x, y) {
					t.Errorf("Next at (%d, %d) of %v is %d with the error %d, and Step %v", x, y, short(p), s, e, short(next))
				}
			}
		}
	})
	if steps < 100 {
		t.Errorf("only %d patterns have a next generation", steps)
	}
}

// checkParts checks that Run by m + n generations is Run by n of Run by m, and returns whether it is without an error.
func checkParts(t *testing.T, own rule, p api.Pattern, m, n int) bool {
	t.Helper()
	want, wanted := direct.Run(own.Tree, p, m)
	if wanted == api.OK {
		want, wanted = direct.Run(own.Tree, want, n)
	}
	got, e := direct.Run(own.Tree, p, m+n)
	checkPattern(t, fmt.Sprintf("Run of %v by %d and %d", short(p), m, n), got, e, want, wanted)
	return e == api.OK
}

// P20.6: pairs of numbers of generations.
func TestParts(t *testing.T) {
	counts := map[bool]int{}
	manyRules(212, 4, func(rng *rand.Rand, own rule) {
		for _, at := range []api.Point{{}, {X: most - 9, Y: 100}, {X: 7, Y: 3 - most}, {X: 4 - most, Y: most - 6}} {
			p := randomPattern(rng, at.X, at.Y, 6, 4, own.States)
			for range 3 {
				counts[checkParts(t, own, p, rng.Intn(6), rng.Intn(6))]++
			}
		}
	})
	if counts[true] < 500 || counts[false] < 500 {
		t.Error("the numbers of runs, by whether they are without an error, are", counts)
	}
}

// P20.6: a great number of generations in parts, and errors that only some parts have.
func TestLongParts(t *testing.T) {
	for _, m := range []int{0, 1, 2, 3, 17, 4999, 5000, 9998, 9999, 10000} {
		checkParts(t, life(), ones(0, 0, glider), m, api.MaxGens-m)
		checkParts(t, life(), ones(0, 0, "ooo"), m, api.MaxGens-m)
		checkParts(t, life(), ones(0, 0, "oo o."), m, api.MaxGens-m)
		checkParts(t, life(), ones(most-1000, 0, glider), m, api.MaxGens-m)
		checkParts(t, copying(8, -1, -1), cells(api.Cell{X: most - 9998, S: 7}), m, api.MaxGens-m)
		// Of more generations than MaxGens, only the parts have patterns.
		if _, e := direct.Run(life().Tree, ones(0, 0, "ooo"), m+10001); e != api.ErrArg {
			t.Errorf("Run by %d returns the error %d", m+10001, e)
		}
	}
	p := ones(0, 0, glider)
	for i := range 3 {
		next, e := direct.Run(life().Tree, p, api.MaxGens)
		checkPattern(t, fmt.Sprint("part ", i), next, e, moved(t, p, 2500, 2500), api.OK)
		p = next
	}
}

// P20.7: moves in all directions.
func TestMoves(t *testing.T) {
	manyRules(213, 3, func(rng *rand.Rand, own rule) {
		p := randomPattern(rng, -2, -2, 10, 6, own.States)
		next, e := direct.Step(own.Tree, p)
		if e != api.OK {
			t.Fatalf("Step of %v returns the error %d", short(p), e)
		}
		for _, d := range hood.Moore(1) {
			for _, by := range []int{1, 2, 3, 64, 1 << 10, 1<<19 + 1, most - 10} {
				got, e := direct.Step(own.Tree, moved(t, p, d.X*by, d.Y*by))
				checkPattern(t, fmt.Sprintf("Step of %v, moved by (%d, %d)", short(p), d.X*by, d.Y*by), got, e, moved(t, next, d.X*by, d.Y*by), api.OK)
			}
		}
	})
}

// farthest returns how far the patterns can be moved, so that all their cells remain at valid positions.
func farthest(d api.Point, l ...api.Pattern) int {
	by := 2 * most
	for _, p := range l {
		for _, c := range p {
			if d.X != 0 {
				by = min(by, most-d.X*c.X)
			}
			if d.Y != 0 {
				by = min(by, most-d.Y*c.Y)
			}
		}
	}
	return by
}

// P20.7: moves to the limits. A pattern that can be moved farther than its next generation leads to ErrRange there.
func TestMovesToLimits(t *testing.T) {
	over := 0
	manyRules(214, 3, func(rng *rand.Rand, own rule) {
		p := randomPattern(rng, -2, -2, 10, 6, own.States)
		next, e := direct.Step(own.Tree, p)
		if e != api.OK || len(p) == 0 {
			return
		}
		for _, d := range hood.Moore(1) {
			if d == (api.Point{}) {
				continue
			}
			by := farthest(d, p, next)
			got, e := direct.Step(own.Tree, moved(t, p, d.X*by, d.Y*by))
			checkPattern(t, fmt.Sprintf("Step of %v, moved by (%d, %d)", short(p), d.X*by, d.Y*by), got, e, moved(t, next, d.X*by, d.Y*by), api.OK)
			for by++; by <= farthest(d, p); by++ {
				over++
				got, e := direct.Step(own.Tree, moved(t, p, d.X*by, d.Y*by))
				checkPattern(t, fmt.Sprintf("Step of %v, moved by (%d, %d)", short(p), d.X*by, d.Y*by), got, e, nil, api.ErrRange)
			}
		}
	})
	if over < 300 {
		t.Errorf("only %d moves lead to an error", over)
	}
}

// distance returns the least number, for any two cells of two patterns, of the greater ones of the differences of their coordinates.
func distance(a, b api.Pattern) int {
	least := 4 * most
	for _, c := range a {
		for _, d := range b {
			least = min(least, max(c.X-d.X, d.X-c.X, c.Y-d.Y, d.Y-c.Y))
		}
	}
	return least
}

// together returns the pattern of both patterns, no cell of which is in both.
func together(t *testing.T, a, b api.Pattern) api.Pattern {
	t.Helper()
	p, e := algebra.Over(a, b)
	if e != api.OK || len(p) != len(a)+len(b) {
		t.Fatalf("%v and %v have common cells, or the error %d", short(a), short(b), e)
	}
	return p
}

// areApart reports whether the next generation of two patterns together consists of their next generations.
func areApart(t *testing.T, own rule, a, b api.Pattern) bool {
	t.Helper()
	first, e1 := direct.Step(own.Tree, a)
	second, e2 := direct.Step(own.Tree, b)
	both, e3 := direct.Step(own.Tree, together(t, a, b))
	if e1 != api.OK || e2 != api.OK || e3 != api.OK {
		t.Fatalf("the errors of %v and %v are %d, %d and %d", short(a), short(b), e1, e2, e3)
	}
	return len(both) == len(first)+len(second) && pattern.Same(both, together(t, first, second))
}

// P20.8: patterns whose distance is greater by one than twice the radius, in x, in y and in both.
func TestFar(t *testing.T) {
	manyRules(215, 2, func(rng *rand.Rand, own rule) {
		gap := 2*hood.Radius(own.Hood) + 1
		for _, d := range hood.Moore(1) {
			if d == (api.Point{}) {
				continue
			}
			a, b := randomPattern(rng, 0, 0, 10, 5, own.States), randomPattern(rng, 0, 0, 10, 5, own.States)
			if len(a) == 0 || len(b) == 0 {
				continue
			}
			// The second pattern is moved to where only the gap is between the boxes of both. In a direction without a gap it is moved anywhere.
			one, _ := pattern.Box(a)
			two, _ := pattern.Box(b)
			side := func(d, from, size, other, otherSize int) int {
				switch d {
				case -1:
					return from - otherSize + 1 - gap - other
				case 1:
					return from + size - 1 + gap - other
				}
				return rng.Intn(9) - 4
			}
			b = moved(t, b, side(d.X, one.X, one.W, two.X, two.W), side(d.Y, one.Y, one.H, two.Y, two.H))
			if n := distance(a, b); n < gap {
				t.Fatalf("the distance of %v and %v is %d", short(a), short(b), n)
			}
			if !areApart(t, own, a, b) {
				t.Errorf("%v and %v are not apart under %s", short(a), short(b), show(own.Tree))
			}
		}
	})
}

// P20.8: patterns with just this distance whose boxes have common positions.
func TestFarAround(t *testing.T) {
	exact := 0
	manyRules(216, 8, func(rng *rand.Rand, own rule) {
		gap := 2*hood.Radius(own.Hood) + 1
		a := randomPattern(rng, 0, 0, 20, 20, own.States)
		b := slices.DeleteFunc(randomPattern(rng, 0, 0, 20, 20, own.States), func(c api.Cell) bool { return distance(a, api.Pattern{c}) < gap })
		if distance(a, b) == gap {
			exact++
		}
		if !areApart(t, own, a, b) {
			t.Errorf("%v and %v are not apart under %s", short(a), short(b), show(own.Tree))
		}
	})
	if exact < 300 {
		t.Errorf("only %d pairs of patterns have just the distance", exact)
	}
}

// P20.8: patterns whose distance is twice the radius can have common cells in their neighbourhoods.
func TestNear(t *testing.T) {
	for r := 1; r <= api.MaxRadius; r++ {
		// A cell is born where at least two cells are in its neighbourhood.
		own := machine{0, func(memory, position, state int) int { return min(memory+state, 2) }, func(memory int) int { return memory / 2 }}.
			rule(2, hood.Moore(r))
		for _, d := range hood.Moore(1) {
			if d == (api.Point{}) {
				continue
			}
			for gap := 1; gap <= 2*r+1; gap++ {
				if areApart(t, own, ones(0, 0, "o"), ones(d.X*gap, d.Y*gap, "o")) != (gap > 2*r) {
					t.Errorf("cells at the distance %d are apart, or not, for the radius %d", gap, r)
				}
			}
		}
	}
}
