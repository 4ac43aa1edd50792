package algebra_test

import (
	"math/rand"
	"slices"
	"testing"

	"cellular/algebra"
	"cellular/api"
	"cellular/pattern"
)

// sets are what the operations on two patterns return.
type sets struct {
	over, xor    result
	and, without api.Pattern
	disjoint     bool
}

// wrongSets is what they return if a list is not valid.
var wrongSets = sets{over: result{e: api.ErrArg}, xor: result{e: api.ErrArg}}

// setsModel returns what the operations on two patterns have to return.
func setsModel(a, b api.Pattern) sets {
	var s sets
	s.over.p, s.over.e = overModel(a, b)
	s.xor.p, s.xor.e = xorModel(a, b)
	s.and, s.without = selected(a, b, true), selected(a, b, false)
	s.disjoint = isPattern(a) && isPattern(b) && len(s.and) == 0
	return s
}

// expectSets compares the operations on two patterns with what is expected.
func expectSets(t *testing.T, a, b api.Pattern, want sets) {
	t.Helper()
	checkCall(t, "Over", want.over, func(l []api.Pattern) result {
		p, e := algebra.Over(l[0], l[1])
		return result{p, e}
	}, a, b)
	checkCall(t, "Xor", want.xor, func(l []api.Pattern) result {
		p, e := algebra.Xor(l[0], l[1])
		return result{p, e}
	}, a, b)
	checkCall(t, "And", result{p: want.and}, func(l []api.Pattern) result { return result{p: algebra.And(l[0], l[1])} }, a, b)
	checkCall(t, "Without", result{p: want.without}, func(l []api.Pattern) result {
		return result{p: algebra.Without(l[0], l[1])}
	}, a, b)
	checkCall(t, "Disjoint", result{}, func(l []api.Pattern) result {
		if got := algebra.Disjoint(l[0], l[1]); got != want.disjoint {
			t.Errorf("Disjoint of %v is %v", short(l...), got)
		}
		return result{}
	}, a, b)
}

// checkSets compares the operations on two patterns with the model, both ways.
func checkSets(t *testing.T, a, b api.Pattern) {
	t.Helper()
	expectSets(t, a, b, setsModel(a, b))
	expectSets(t, b, a, setsModel(b, a))
}

// P6.1, P6.2
func TestSetsExamples(t *testing.T) {
	a := api.Pattern{{S: 1}, {X: 1, S: 1}}
	b := api.Pattern{{X: 1, S: 2}, {X: 2, S: 2}}
	expectSets(t, a, b, sets{
		over:    result{p: api.Pattern{{S: 1}, {X: 1, S: 1}, {X: 2, S: 2}}},
		xor:     result{p: api.Pattern{{S: 1}, {X: 2, S: 2}}},
		and:     api.Pattern{{X: 1, S: 1}},
		without: api.Pattern{{S: 1}},
	})
	expectSets(t, b, a, sets{
		over:    result{p: api.Pattern{{S: 1}, {X: 1, S: 2}, {X: 2, S: 2}}},
		xor:     result{p: api.Pattern{{S: 1}, {X: 2, S: 2}}},
		and:     api.Pattern{{X: 1, S: 2}},
		without: api.Pattern{{X: 2, S: 2}},
	})
	// The rows take turns, and in the row 1 the greater X is in the pattern that comes first.
	c := api.Pattern{{X: 5, Y: -1, S: 3}, {X: 4, Y: 1, S: 4}}
	d := api.Pattern{{X: -5, S: 5}, {X: -4, Y: 1, S: 6}, {Y: 2, S: 7}}
	both := api.Pattern{{X: 5, Y: -1, S: 3}, {X: -5, S: 5}, {X: -4, Y: 1, S: 6}, {X: 4, Y: 1, S: 4}, {Y: 2, S: 7}}
	expectSets(t, c, d, sets{over: result{p: both}, xor: result{p: both}, without: c, disjoint: true})
	expectSets(t, d, c, sets{over: result{p: both}, xor: result{p: both}, without: d, disjoint: true})
}

// P6.1, P6.2: the empty pattern as the first one, as the second one, and as both.
func TestSetsEmpty(t *testing.T) {
	for _, none := range []api.Pattern{nil, {}, row(0, 0, 3, 1)[:0]} {
		for _, p := range somePatterns() {
			expectSets(t, none, p, sets{over: result{p: p}, xor: result{p: p}, disjoint: true})
			expectSets(t, p, none, sets{over: result{p: p}, xor: result{p: p}, without: p, disjoint: true})
		}
		for _, other := range []api.Pattern{nil, {}} {
			expectSets(t, none, other, sets{disjoint: true})
		}
	}
}

// P6.1, P6.2: a list that is not a valid pattern as the first one, as the second one, and as both, also where there would be too
// many cells.
func TestSetsOfWrongLists(t *testing.T) {
	for _, l := range wrongLists() {
		for _, p := range append(somePatterns(), api.Pattern{{X: 50, Y: 60, S: 1}}) {
			expectSets(t, l, p, wrongSets)
			expectSets(t, p, l, wrongSets)
		}
		expectSets(t, l, l, wrongSets)
		for _, other := range wrongLists() {
			expectSets(t, l, other, wrongSets)
		}
	}
}

// P6.1, P6.2: the same positions with different states.
func TestSetsOfSamePositions(t *testing.T) {
	a := block(-2, 3, 4, 3)
	b := slices.Clone(a)
	for i := range b {
		b[i].S = 8 - a[i].S
	}
	expectSets(t, a, b, sets{over: result{p: a}, and: a})
	expectSets(t, b, a, sets{over: result{p: b}, and: b})
	expectSets(t, a, a, sets{over: result{p: a}, and: a})
	// All but one position, which differs at the beginning, within the lists, and at the end.
	for i := range a {
		fewer := slices.Delete(slices.Clone(b), i, i+1)
		over := slices.Clone(b)
		over[i] = a[i]
		without := api.Pattern{a[i]}
		and := slices.Delete(slices.Clone(a), i, i+1)
		expectSets(t, a, fewer, sets{over: result{p: a}, xor: result{p: without}, and: and, without: without})
		expectSets(t, fewer, a, sets{over: result{p: over}, xor: result{p: without}, and: fewer})
	}
}

// P6.1, P6.2: positions of which one coordinate is the same are different ones.
func TestSetsOfNeighbours(t *testing.T) {
	for _, b := range []api.Cell{{X: 2, S: 1}, {X: 4, S: 1}, {X: 3, Y: 1, S: 1}, {X: 3, Y: -1, S: 1}, {Y: 3, S: 1}, {X: -3, S: 1}} {
		checkSets(t, api.Pattern{{X: 3, S: 1}}, api.Pattern{b})
		if !algebra.Disjoint(api.Pattern{{X: 3, S: 1}}, api.Pattern{b}) {
			t.Errorf("%v and (3, 0) are not disjoint", b)
		}
	}
}

// P6.1, P6.2: MaxCells cells in the result, and one more. The number of cells of both together does not matter.
func TestSetsSize(t *testing.T) {
	for _, c := range []struct {
		a, b      api.Pattern
		over, xor int
	}{
		{row(0, 0, full, 1), row(0, 0, full, 2), full, 0},
		{row(0, 0, full, 1), row(4999, 0, 1, 2), full, full - 1},
		{row(0, 0, full, 1), row(5000, 0, 1, 2), -1, -1},
		{row(0, 0, full, 1), row(-1, 0, 1, 2), -1, -1},
		{row(0, 0, full, 1), row(0, 1, 1, 2), -1, -1},
		{row(0, 0, full-1, 1), row(0, 1, 1, 2), full, full},
		{row(0, 0, full, 1), row(1, 0, full, 2), -1, 2},
		{row(0, 0, full, 1), row(0, 1, full, 2), -1, -1},
		{row(0, 0, 2500, 1), row(0, 1, 2500, 2), full, full},
		{row(0, 0, 2500, 1), row(2500, 0, 2501, 2), -1, -1},
		{row(0, 0, 3000, 1), row(2000, 0, 3000, 2), full, 4000},
		{row(0, 0, 3000, 1), row(2000, 0, 3001, 2), -1, 4001},
		{row(0, 0, 3000, 1), row(2500, 0, 3000, 2), -1, full},
		{row(0, 0, 3000, 1), row(2499, 0, 3001, 2), -1, 4999},
		{row(0, 0, 3000, 1), row(2500, 0, 3001, 2), -1, full + 1},
		{block(0, 0, 50, 100), block(25, 50, 50, 100), -1, -1},
	} {
		over, e := algebra.Over(c.a, c.b)
		checkNumber(t, over, e, c.over)
		xor, e := algebra.Xor(c.a, c.b)
		checkNumber(t, xor, e, c.xor)
		checkSets(t, c.a, c.b)
	}
}

// checkNumber compares the number of cells of a result with what is expected, which is an error if it is -1 or too great.
func checkNumber(t *testing.T, p api.Pattern, e api.Errno, n int) {
	t.Helper()
	want := api.OK
	if n < 0 || n > full {
		n, want = 0, api.ErrSize
	}
	if len(p) != n || e != want {
		t.Errorf("the result has %d cells and the error %d, not %d and %d", len(p), e, n, want)
	}
}

// P6.1, P6.2: patterns of all kinds, with one another.
func TestSetsOfSomePatterns(t *testing.T) {
	for _, a := range somePatterns() {
		for _, b := range somePatterns() {
			expectSets(t, a, b, setsModel(a, b))
		}
	}
}

// P6.1, P6.2
func TestSetsRandom(t *testing.T) {
	rng := rand.New(rand.NewSource(61))
	for range 3000 {
		a, b := near(rng, 15), near(rng, 15)
		checkSets(t, a, b)
		far := anywhere(rng, 10)
		over, e := overModel(far, b)
		if e != api.OK {
			t.Fatal("the error", e)
		}
		checkSets(t, over, a)
		checkSets(t, over, far)
	}
}

// P6.2: the states do not matter for Disjoint.
func TestDisjoint(t *testing.T) {
	p := block(0, 0, 5, 5)
	for i, c := range p {
		for _, s := range []int{1, c.S, 7} {
			one := api.Pattern{{X: c.X, Y: c.Y, S: s}}
			if algebra.Disjoint(p, one) || algebra.Disjoint(one, p) {
				t.Errorf("%v and the pattern are disjoint", one)
			}
			rest := slices.Delete(slices.Clone(p), i, i+1)
			if !algebra.Disjoint(rest, one) || !algebra.Disjoint(one, rest) {
				t.Errorf("%v and the other cells are not disjoint", one)
			}
		}
	}
}

// P6.6
func TestSetsConsequences(t *testing.T) {
	rng := rand.New(rand.NewSource(66))
	list := append(somePatterns(), block(-1, -1, 3, 3))
	for range 40 {
		list = append(list, near(rng, 6), near(rng, 25))
	}
	for _, a := range list {
		for _, b := range list {
			checkConsequences(t, a, b)
		}
	}
}

// checkConsequences examines how the operations on two patterns depend on each other.
func checkConsequences(t *testing.T, a, b api.Pattern) {
	t.Helper()
	without, and := algebra.Without(a, b), algebra.And(a, b)
	if got, e := algebra.Over(without, and); e != api.OK || !pattern.Same(got, a) {
		t.Errorf("Over of Without and And of %v is %v, %d", short(a, b), short(got), e)
	}
	xor, e := algebra.Xor(a, b)
	if got, f := algebra.Over(without, algebra.Without(b, a)); f != e || !pattern.Same(got, xor) {
		t.Errorf("Over of both differences of %v is %v, %d, but Xor is %v, %d", short(a, b), short(got), f, short(xor), e)
	}
	if got := algebra.Disjoint(a, b); got != (len(and) == 0) {
		t.Errorf("Disjoint of %v is %v, but And is %v", short(a, b), got, short(and))
	}
}

// P6.7
func TestOverCells(t *testing.T) {
	rng := rand.New(rand.NewSource(67))
	for range 500 {
		a, b := near(rng, 20), near(rng, 20)
		over, e := algebra.Over(a, b)
		if e != api.OK || !pattern.Right(over) {
			t.Fatalf("Over of %v and %v is %v, %d", a, b, over, e)
		}
		for x := -4; x <= 4; x++ {
			for y := -3; y <= 3; y++ {
				want := pattern.Get(a, x, y)
				if want == 0 {
					want = pattern.Get(b, x, y)
				}
				if got := pattern.Get(over, x, y); got != want {
					t.Errorf("Over of %v and %v has the state %d at (%d, %d), not %d", a, b, got, x, y, want)
				}
			}
		}
	}
}
