package pattern_test

import (
	"math"
	"math/rand"
	"slices"
	"testing"

	"cellular/api"
	"cellular/pattern"
)

// checkFrom compares From with the expected results, and examines whether the list is as before.
func checkFrom(t *testing.T, l []api.Cell, want api.Pattern, wantError api.Errno) {
	t.Helper()
	unchanged(t, l, func(l []api.Cell) {
		got, e := pattern.From(l)
		checkPattern(t, got, e, want, wantError)
	})
}

// P5.2
func TestFromExamples(t *testing.T) {
	for _, c := range []struct {
		l    []api.Cell
		want api.Pattern
	}{
		{nil, nil},
		{[]api.Cell{}, nil},
		{[]api.Cell{{X: 2, S: 1}, {}, {X: 1, S: 3}}, api.Pattern{{X: 1, S: 3}, {X: 2, S: 1}}},
		{[]api.Cell{{X: 1, Y: 1, S: 1}, {S: 2}}, api.Pattern{{S: 2}, {X: 1, Y: 1, S: 1}}},
		{[]api.Cell{{X: 3, S: 1}, {X: -3, Y: 1, S: 1}}, api.Pattern{{X: 3, S: 1}, {X: -3, Y: 1, S: 1}}},
		{[]api.Cell{{X: -3, Y: 1, S: 1}, {X: 3, S: 1}}, api.Pattern{{X: 3, S: 1}, {X: -3, Y: 1, S: 1}}},
		{[]api.Cell{{X: most, Y: most, S: 7}, {X: -most, Y: -most, S: 1}}, api.Pattern{{X: -most, Y: -most, S: 1}, {X: most, Y: most, S: 7}}},
	} {
		checkFrom(t, c.l, c.want, api.OK)
	}
}

// P5.2: cells with the state 0 are left out, wherever they are and whatever other cell is there.
func TestFromZeros(t *testing.T) {
	one := api.Pattern{{X: 4, Y: 5, S: 6}}
	zero := api.Cell{X: 4, Y: 5}
	for _, c := range []struct {
		l    []api.Cell
		want api.Pattern
	}{
		{[]api.Cell{{}}, nil},
		{[]api.Cell{zero, zero, {}, {}}, nil},
		{[]api.Cell{one[0], zero}, one},
		{[]api.Cell{zero, one[0]}, one},
		{[]api.Cell{zero, one[0], zero}, one},
		{[]api.Cell{zero, {X: most, Y: most}, one[0], {X: -most, Y: -most}, zero}, one},
	} {
		checkFrom(t, c.l, c.want, api.OK)
	}
	checkFrom(t, []api.Cell{one[0], zero, one[0]}, nil, api.ErrTwice)
}

// P5.2: each error, and the order of errors.
func TestFromErrors(t *testing.T) {
	var place, state, both = api.Cell{X: most + 1, S: 1}, api.Cell{S: 8}, api.Cell{Y: -most - 1, S: -1}
	var good, other = api.Cell{X: 3, Y: 3, S: 1}, api.Cell{X: 3, Y: 3, S: 2}
	for _, c := range []struct {
		l []api.Cell
		e api.Errno
	}{
		{[]api.Cell{place}, api.ErrRange},
		{[]api.Cell{state}, api.ErrState},
		{[]api.Cell{{S: -1}}, api.ErrState},
		{[]api.Cell{both}, api.ErrRange},
		{[]api.Cell{good, place, state}, api.ErrRange},
		{[]api.Cell{good, state, place}, api.ErrState},
		{[]api.Cell{state, both}, api.ErrState},
		{[]api.Cell{both, state}, api.ErrRange},
		{[]api.Cell{{X: most + 1}}, api.ErrRange},
		{[]api.Cell{{Y: -most - 1}}, api.ErrRange},
		{[]api.Cell{good, good}, api.ErrTwice},
		{[]api.Cell{good, other}, api.ErrTwice},
		{[]api.Cell{other, {X: -1, S: 1}, {Y: 9, S: 1}, good}, api.ErrTwice},
		{[]api.Cell{good, good, place}, api.ErrRange},
		{[]api.Cell{good, good, state}, api.ErrState},
		{append(row(0, 0, full+1), place), api.ErrRange},
		{append(row(0, 0, full+1), state), api.ErrState},
		{append(row(0, 0, full+1), api.Cell{S: 1}), api.ErrTwice},
		{append(row(0, 0, full+1), api.Cell{X: full, S: 2}), api.ErrTwice},
		{append(row(0, 0, full), api.Cell{S: 1}), api.ErrTwice},
		{row(0, 0, full+1), api.ErrSize},
	} {
		checkFrom(t, c.l, nil, c.e)
	}
}

// P5.2: the position and the state of a single cell.
func TestFromSingleCells(t *testing.T) {
	for _, x := range coords {
		for _, y := range coords {
			for _, s := range states {
				l := []api.Cell{{X: x, Y: y, S: s}}
				want, e := fromModel(l)
				checkFrom(t, l, want, e)
			}
		}
	}
}

// P5.2: MaxCells cells, to which those with the state 0 do not belong.
func TestFromNumberOfCells(t *testing.T) {
	rng := rand.New(rand.NewSource(60))
	for _, n := range []int{full - 1, full, full + 1, full + 2, 2 * full} {
		want, e := row(-100, 3, n), api.OK
		if n > full {
			want, e = nil, api.ErrSize
		}
		l := row(-100, 3, n)
		checkFrom(t, l, want, e)
		for i := range 100 {
			l = append(l, api.Cell{X: i, Y: i % 5})
		}
		rng.Shuffle(len(l), func(i, k int) { l[i], l[k] = l[k], l[i] })
		checkFrom(t, l, want, e)
	}
	checkFrom(t, make([]api.Cell, full+1), nil, api.OK)
}

// P5.2, P5.4
func TestFromRandom(t *testing.T) {
	rng := rand.New(rand.NewSource(61))
	for round := range 3000 {
		var l []api.Cell
		for range rng.Intn(9) {
			l = append(l, nearCell(rng, 0))
		}
		if round%10 == 0 {
			l = append(l, cell(rng))
			rng.Shuffle(len(l), func(i, k int) { l[i], l[k] = l[k], l[i] })
		}
		want, e := fromModel(l)
		checkFrom(t, l, want, e)
	}
	for _, l := range someLists(rng, 300) {
		want, e := fromModel(l)
		checkFrom(t, l, want, e)
	}
}

// P5.4: From returns a pattern with the states of its cells.
func TestFromThenGet(t *testing.T) {
	rng := rand.New(rand.NewSource(62))
	for range 200 {
		l := nearPattern(rng, 30)
		rng.Shuffle(len(l), func(i, k int) { l[i], l[k] = l[k], l[i] })
		p, e := pattern.From(l)
		if e != api.OK || !pattern.Right(p) || len(p) != len(l) {
			t.Fatalf("From(%v) is %v, %d", l, p, e)
		}
		m := mapOf(l)
		for x := -4; x <= 4; x++ {
			for y := -3; y <= 3; y++ {
				if got := pattern.Get(p, x, y); got != m[api.Point{X: x, Y: y}] {
					t.Errorf("From(%v) has the state %d at (%d, %d)", l, got, x, y)
				}
			}
		}
	}
}

// checkSet compares Set with the model, and examines whether the list is as before.
func checkSet(t *testing.T, p api.Pattern, x, y, s int) {
	t.Helper()
	want, wantError := setModel(p, x, y, s)
	unchanged(t, p, func(l []api.Cell) {
		got, e := pattern.Set(l, x, y, s)
		checkPattern(t, got, e, want, wantError)
	})
}

// P5.2
func TestSetExamples(t *testing.T) {
	p := api.Pattern{{X: 1, S: 2}, {X: 5, S: 3}, {X: 1, Y: 1, S: 4}}
	for _, c := range []struct {
		x, y, s int
		want    api.Pattern
	}{
		{0, 0, 1, api.Pattern{{S: 1}, {X: 1, S: 2}, {X: 5, S: 3}, {X: 1, Y: 1, S: 4}}},
		{3, 0, 1, api.Pattern{{X: 1, S: 2}, {X: 3, S: 1}, {X: 5, S: 3}, {X: 1, Y: 1, S: 4}}},
		{-9, 1, 7, api.Pattern{{X: 1, S: 2}, {X: 5, S: 3}, {X: -9, Y: 1, S: 7}, {X: 1, Y: 1, S: 4}}},
		{2, 1, 1, api.Pattern{{X: 1, S: 2}, {X: 5, S: 3}, {X: 1, Y: 1, S: 4}, {X: 2, Y: 1, S: 1}}},
		{9, -9, 1, api.Pattern{{X: 9, Y: -9, S: 1}, {X: 1, S: 2}, {X: 5, S: 3}, {X: 1, Y: 1, S: 4}}},
		{1, 0, 7, api.Pattern{{X: 1, S: 7}, {X: 5, S: 3}, {X: 1, Y: 1, S: 4}}},
		{5, 0, 3, p},
		{1, 0, 0, p[1:]},
		{5, 0, 0, api.Pattern{{X: 1, S: 2}, {X: 1, Y: 1, S: 4}}},
		{1, 1, 0, p[:2]},
		{0, 0, 0, p},
		{2, 0, 0, p},
		{9, 9, 0, p},
		{-most, -most, 0, p},
	} {
		got, e := pattern.Set(p, c.x, c.y, c.s)
		checkPattern(t, got, e, c.want, api.OK)
		checkSet(t, p, c.x, c.y, c.s)
	}
}

// P5.2: the empty pattern, before and after.
func TestSetEmpty(t *testing.T) {
	for _, p := range []api.Pattern{nil, {}} {
		checkSet(t, p, 3, 4, 0)
		checkSet(t, p, 3, 4, 5)
		checkSet(t, p, most, -most, 7)
		checkSet(t, p, -most, most, 0)
	}
	checkSet(t, api.Pattern{{X: 3, Y: 4, S: 5}}, 3, 4, 0)
}

// P5.2: each error, and the order of errors.
func TestSetErrors(t *testing.T) {
	right, whole := api.Pattern{{S: 1}}, row(0, 0, full)
	for _, c := range []struct {
		p       api.Pattern
		x, y, s int
		e       api.Errno
	}{
		{right, most + 1, 0, 1, api.ErrRange},
		{right, 0, -most - 1, 1, api.ErrRange},
		{right, most + 1, 0, 0, api.ErrRange},
		{right, 0, most + 1, 8, api.ErrRange},
		{right, math.MinInt, math.MaxInt, -1, api.ErrRange},
		{right, 0, 0, 8, api.ErrState},
		{right, 5, 0, -1, api.ErrState},
		{right, most, most, math.MaxInt, api.ErrState},
		{nil, 0, 0, math.MinInt, api.ErrState},
		{whole, most + 1, 0, 1, api.ErrRange},
		{whole, -1, 0, 8, api.ErrState},
		{whole, -1, 0, 1, api.ErrSize},
		{whole, full, 0, 7, api.ErrSize},
		{whole, 3, 1, 1, api.ErrSize},
	} {
		got, e := pattern.Set(c.p, c.x, c.y, c.s)
		checkPattern(t, got, e, nil, c.e)
		checkSet(t, c.p, c.x, c.y, c.s)
	}
}

// P5.2: ErrArg comes first, whatever else would be wrong.
func TestSetOfWrongLists(t *testing.T) {
	for _, l := range wrongLists() {
		for _, c := range []api.Cell{{S: 1}, {}, {X: 1, S: 1}, {X: most + 1, S: 1}, {S: 8}, {Y: math.MinInt, S: math.MinInt}} {
			unchanged(t, l, func(l []api.Cell) {
				got, e := pattern.Set(l, c.X, c.Y, c.S)
				checkPattern(t, got, e, nil, api.ErrArg)
			})
		}
	}
}

// P5.2: with MaxCells cells, those that are there can still be changed and removed.
func TestSetNumberOfCells(t *testing.T) {
	for _, n := range []int{full - 1, full} {
		for _, p := range []api.Pattern{row(-7, 2, n), block(most-49, -most, 50, 100)[:n]} {
			for _, i := range []int{0, 1, n / 2, n - 1} {
				for _, s := range []int{0, 1, 5, 7} {
					checkSet(t, p, p[i].X, p[i].Y, s)
					checkSet(t, p, p[i].X, p[i].Y+200, s)
				}
			}
		}
	}
}

// P5.2: positions and states at the limits and beyond them.
func TestSetAllInts(t *testing.T) {
	for _, p := range []api.Pattern{nil, {{S: 1}}, {{X: -most, Y: -most, S: 1}, {X: most, Y: -most, S: 2}, {X: most, Y: most, S: 4}}} {
		for _, x := range coords {
			for _, y := range coords {
				for _, s := range states {
					checkSet(t, p, x, y, s)
				}
			}
		}
	}
}

// P5.4: Get returns the new state at this position, and the old states at all others.
func TestSetThenGet(t *testing.T) {
	rng := rand.New(rand.NewSource(63))
	for range 2000 {
		p, c := nearPattern(rng, 25), nearCell(rng, 0)
		checkSet(t, p, c.X, c.Y, c.S)
		q, e := pattern.Set(p, c.X, c.Y, c.S)
		if e != api.OK || !pattern.Right(q) {
			t.Fatalf("Set(%v, %v) is %v, %d", p, c, q, e)
		}
		for x := -4; x <= 4; x++ {
			for y := -3; y <= 3; y++ {
				want := pattern.Get(p, x, y)
				if x == c.X && y == c.Y {
					want = c.S
				}
				if got := pattern.Get(q, x, y); got != want {
					t.Errorf("Set(%v, %v) has the state %d at (%d, %d), not %d", p, c, got, x, y, want)
				}
			}
		}
	}
}

// P5.2: cells that are set one after the other make the same pattern as From.
func TestSetOneByOne(t *testing.T) {
	rng := rand.New(rand.NewSource(64))
	for range 100 {
		want := nearPattern(rng, 30)
		l := slices.Clone(want)
		rng.Shuffle(len(l), func(i, k int) { l[i], l[k] = l[k], l[i] })
		var p api.Pattern
		for _, c := range l {
			var e api.Errno
			if p, e = pattern.Set(p, c.X, c.Y, c.S); e != api.OK {
				t.Fatal("the error", e)
			}
		}
		got, e := pattern.From(l)
		checkPattern(t, got, e, want, api.OK)
		checkPattern(t, p, api.OK, want, api.OK)
	}
}

// P5.2: the results are memory of their own, also if nothing is changed.
func TestBuildResultIsNew(t *testing.T) {
	p := block(0, 0, 3, 2)
	for i, call := range []func(p api.Pattern) (api.Pattern, api.Errno){
		func(p api.Pattern) (api.Pattern, api.Errno) { return pattern.From(p) },
		func(p api.Pattern) (api.Pattern, api.Errno) { return pattern.Set(p, 9, 9, 0) },
		func(p api.Pattern) (api.Pattern, api.Errno) { return pattern.Set(p, 0, 0, 0) },
		func(p api.Pattern) (api.Pattern, api.Errno) { return pattern.Set(p, 2, 1, 0) },
		func(p api.Pattern) (api.Pattern, api.Errno) { return pattern.Set(p, 0, 0, 1) },
		func(p api.Pattern) (api.Pattern, api.Errno) { return pattern.Set(p, 9, 9, 1) },
		func(p api.Pattern) (api.Pattern, api.Errno) { return pattern.Shift(p, 0, 0) },
		func(p api.Pattern) (api.Pattern, api.Errno) { return pattern.Shift(p, 1, 0) },
	} {
		unchanged(t, p, func(l []api.Cell) {
			got, e := call(l)
			if e != api.OK {
				t.Fatalf("the call %d is the error %d", i, e)
			}
			for k := range got {
				got[k] = api.Cell{X: 88, Y: 88, S: 88}
			}
			_ = append(got, api.Cell{X: 99, Y: 99, S: 99})
		})
	}
}
