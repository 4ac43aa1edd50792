package direct_test

import (
	"math/rand"
	"slices"
	"testing"

	"cellular/algebra"
	"cellular/api"
	"cellular/hood"
	"cellular/notation"
	"cellular/point"
)

// P20.2: patterns and their next generations that are written down.
func TestStepExamples(t *testing.T) {
	for _, c := range []struct {
		rule    string
		p, want api.Pattern
	}{
		{"B3/S23", ones(0, 0, "ooo"), ones(1, -1, "o o o")},
		{"B3/S23", ones(1, -1, "o o o"), ones(0, 0, "ooo")},
		{"B3/S23", ones(0, 0, glider), ones(0, 1, "o.o .oo .o.")},
		{"B3/S23", ones(7, -8, "oo oo"), ones(7, -8, "oo oo")},
		{"B3/S23", ones(0, 0, "oo o."), ones(0, 0, "oo oo")},
		{"B3/S23", ones(0, 0, "oo"), nil},
		{"B1/S", ones(0, 0, "o"), ones(-1, -1, "ooo o.o ooo")},
		{"B1/SV", ones(0, 0, "o"), ones(-1, -1, ".o. o.o .o.")},
		{"B1/SH", ones(0, 0, "o"), ones(-1, -1, "oo. o.o .oo")},
		{"B2/S/C3", cells(api.Cell{S: 1}), cells(api.Cell{S: 2})},
		{"B2/S/C3", cells(api.Cell{S: 2}), nil},
		{
			"B2/S/C3", cells(api.Cell{S: 1}, api.Cell{X: 1, S: 1}),
			cells(api.Cell{Y: -1, S: 1}, api.Cell{X: 1, Y: -1, S: 1}, api.Cell{S: 2}, api.Cell{X: 1, S: 2}, api.Cell{Y: 1, S: 1},
				api.Cell{X: 1, Y: 1, S: 1}),
		},
		{"W90", ones(0, 0, "o"), ones(-1, 0, "o.o")},
		{"W90", ones(-1, 0, "o.o"), ones(-2, 0, "o...o")},
		{"W30", ones(0, 0, "o"), ones(-1, 0, "ooo")},
		{"W30", ones(-1, 0, "ooo"), ones(-2, 0, "oo..o")},
		{"W90", ones(0, 0, "o ."), ones(-1, 0, "o.o")},
		{"W90", ones(0, 0, "o .o"), ones(-1, 0, "o.o .o.o")},
	} {
		own, e := notation.Parse(c.rule)
		if e != api.OK {
			t.Fatalf("the rule %s has the error %d", c.rule, e)
		}
		checkStep(t, rule{Tree: own}, c.p, c.want, api.OK)
	}
}

// P20.2: the empty pattern, under each rule.
func TestStepEmpty(t *testing.T) {
	rng := rand.New(rand.NewSource(203))
	for _, l := range allHoods() {
		for states := 2; states <= api.MaxStates; states++ {
			for _, own := range []rule{randomRule(rng, states, l), greatest(states, l), dying(states, l)} {
				checkStep(t, own, nil, nil, api.OK)
				checkStep(t, own, api.Pattern{}, nil, api.OK)
			}
		}
	}
}

// P20.2: under the rule that copies the state at an offset, a pattern moves by the opposite of the offset.
func TestStepCopies(t *testing.T) {
	for _, d := range hood.Moore(2) {
		for states := 2; states <= api.MaxStates; states++ {
			for _, p := range []api.Pattern{
				{{S: states - 1}}, block(-1, -1, 3, 3, states), lattice(-7, -5, 40, 5, 4, states), lattice(100, 3, 20, 4, 5, states),
				cells(api.Cell{X: most - 2, Y: 3, S: 1}, api.Cell{X: 2 - most, Y: 4, S: 1}),
			} {
				checkStep(t, copying(states, d.X, d.Y), p, moved(t, p, -d.X, -d.Y), api.OK)
			}
		}
	}
}

// P20.2: under the rule of the greatest state, the cells whose neighbourhood has a cell of a pattern are born, on each side of it.
func TestStepBirths(t *testing.T) {
	for _, l := range allHoods() {
		for _, p := range []api.Pattern{
			{{S: 1}}, ones(0, 0, "ooo"), ones(-3, 5, "o o o"), ones(0, 0, glider), ones(0, 0, "o....o ...... ...... ...... ..o..o"),
		} {
			want := stateMap{}
			for _, c := range p {
				for _, d := range l {
					want[api.Point{X: c.X - d.X, Y: c.Y - d.Y}] = 1
				}
			}
			checkStep(t, greatest(2, l), p, want.pattern(), api.OK)
		}
	}
}

// P20.2: a pattern with cells of all states, under the rule of the greatest one.
func TestStepStates(t *testing.T) {
	for states := 2; states <= api.MaxStates; states++ {
		var p, want api.Pattern
		for s := 1; s < states; s++ {
			p = append(p, api.Cell{X: 2 * s, S: s})
			want = append(want, api.Cell{X: 2*s - 1, S: s}, api.Cell{X: 2 * s, S: s})
		}
		want = append(want, api.Cell{X: 2*states - 1, S: states - 1})
		checkStep(t, greatest(states, drawn(line)), p, want, api.OK)
	}
}

// P20.2: random rules with each number of states on all neighbourhoods, and random patterns.
func TestStepRandom(t *testing.T) {
	rng := rand.New(rand.NewSource(204))
	sizes := map[bool]int{}
	for _, l := range allHoods() {
		for states := 2; states <= api.MaxStates; states++ {
			for range 20 {
				own := randomRule(rng, states, l)
				next, _ := checkStepModel(t, own, randomPattern(rng, rng.Intn(99)-50, rng.Intn(99)-50, 30, 12, states))
				sizes[len(next) > 10]++
			}
		}
	}
	if sizes[true] < 500 || sizes[false] < 500 {
		t.Error("the numbers of next generations, by whether they have more than 10 cells, are", sizes)
	}
}

// P20.2: random rules by counts.
func TestStepCounts(t *testing.T) {
	rng := rand.New(rand.NewSource(205))
	own := life()
	for range 500 {
		checkStepModel(t, own, randomPattern(rng, -5, -5, 60, 12, 2))
	}
}

// limitCorners are the corners of boxes of 5 by 5 cells at each edge and corner of the valid positions.
var limitCorners = []api.Point{
	{X: -most, Y: -most}, {Y: -most}, {X: most - 4, Y: -most}, {X: -most}, {X: most - 4}, {X: -most, Y: most - 4}, {Y: most - 4},
	{X: most - 4, Y: most - 4},
}

// P20.2: patterns that remain as they are at each edge and corner, where many cells outside have cells of them in their neighbourhood.
func TestStepStillAtLimits(t *testing.T) {
	for _, c := range limitCorners {
		for _, l := range allHoods() {
			if k := hood.Centre(l); k >= 0 {
				p := block(c.X, c.Y, 5, 5, 8)
				checkStep(t, reading(8, l, k), p, p, api.OK)
			}
			checkStep(t, dying(8, l), block(c.X, c.Y, 5, 5, 8), nil, api.OK)
		}
		for _, p := range []api.Pattern{
			ones(c.X, c.Y, "oo oo"), ones(c.X+3, c.Y, "oo oo"), ones(c.X, c.Y+3, "oo oo"), ones(c.X+3, c.Y+3, "oo oo"),
		} {
			checkStep(t, life(), p, p, api.OK)
		}
	}
}

// P20.2: patterns that move at each edge and corner, along it, away from it, and over it.
func TestStepMovesAtLimits(t *testing.T) {
	for _, c := range limitCorners {
		p := block(c.X, c.Y, 5, 5, 8)
		for _, d := range hood.Moore(2) {
			own := copying(8, d.X, d.Y)
			if isPlace(c.X-d.X, c.Y-d.Y) && isPlace(c.X+4-d.X, c.Y+4-d.Y) {
				checkStep(t, own, p, moved(t, p, -d.X, -d.Y), api.OK)
			} else {
				checkStep(t, own, p, nil, api.ErrRange)
			}
		}
	}
}

// P20.2: a cell that is born outside is an error, wherever the pattern's other cells are; one that is 0 there is none.
func TestStepBirthsAtLimits(t *testing.T) {
	for _, c := range []struct {
		p      api.Pattern
		wanted api.Errno
	}{
		{ones(0, -most, "ooo"), api.ErrRange},
		{ones(0, -most, "o o o"), api.OK},
		{ones(0, 1-most, "ooo"), api.OK},
		{ones(0, most, "ooo"), api.ErrRange},
		{ones(0, most-2, "o o o"), api.OK},
		{ones(0, most-1, "ooo"), api.OK},
		{ones(-most, 0, "o o o"), api.ErrRange},
		{ones(-most, 0, "ooo"), api.OK},
		{ones(1-most, 0, "o o o"), api.OK},
		{ones(most, 0, "o o o"), api.ErrRange},
		{ones(most-2, 0, "ooo"), api.OK},
		{ones(most-1, 0, "o o o"), api.OK},
		{ones(-most, -most, "o.o ... o.o"), api.OK},
		{ones(most-1, most-1, "oo o."), api.OK},
		{ones(-most, -most, "ooo ..o ..o"), api.ErrRange},
		{ones(most-2, most-2, "..o ..o ooo"), api.ErrRange},
		{slices.Concat(ones(5, -most, "ooo"), ones(5, 0, "ooo")), api.ErrRange},
		{slices.Concat(ones(5, 0, "ooo"), ones(5, most, "ooo")), api.ErrRange},
		{slices.Concat(ones(5, -most, "oo"), ones(5, 0, "ooo"), ones(5, most, "oo")), api.OK},
		// Of cells at both ends of rows no one is near another one.
		{cells(api.Cell{X: most, S: 1}, api.Cell{X: -most, Y: 1, S: 1}, api.Cell{X: 1 - most, Y: 1, S: 1}), api.OK},
		{cells(api.Cell{X: most - 1, S: 1}, api.Cell{X: most, S: 1}, api.Cell{X: -most, Y: 1, S: 1}, api.Cell{X: most, Y: 1, S: 1}), api.OK},
	} {
		if _, e := checkStepModel(t, life(), c.p); e != c.wanted {
			t.Errorf("the error of %v is %d, not %d", c.p, e, c.wanted)
		}
	}
}

// P20.2: random rules and patterns at each edge and corner.
func TestStepRandomAtLimits(t *testing.T) {
	rng := rand.New(rand.NewSource(206))
	counts := map[api.Errno]int{}
	for _, c := range limitCorners {
		for _, l := range allHoods() {
			for states := 2; states <= api.MaxStates; states++ {
				for range 3 {
					p := randomPattern(rng, c.X, c.Y, 4, 5, states)
					_, e := checkStepModel(t, remembering(rng, 2+rng.Intn(9), states, l, 4), p)
					counts[e]++
				}
			}
		}
	}
	if counts[api.OK] < 300 || counts[api.ErrRange] < 300 || len(counts) != 2 {
		t.Errorf("there are %d next generations and %d errors, of %d kinds", counts[api.OK], counts[api.ErrRange], len(counts)-1)
	}
}

// onesOf returns the pattern of rows of lengths, each row with an empty one behind it.
func onesOf(lengths ...int) api.Pattern {
	var p api.Pattern
	for i, n := range lengths {
		for x := range n {
			p = append(p, api.Cell{X: x, Y: 2 * i, S: 1})
		}
	}
	return p
}

// P20.2: next generations with about MaxCells cells.
func TestStepSize(t *testing.T) {
	for _, c := range []struct {
		p      api.Pattern
		d      string
		size   int
		wanted api.Errno
	}{
		{onesOf(4999), left, 5000, api.OK},
		{onesOf(5000), left, 5001, api.ErrSize},
		{onesOf(4998), line, 5000, api.OK},
		{onesOf(4999), line, 5001, api.ErrSize},
		{onesOf(slices.Repeat([]int{1}, 2500)...), left, 5000, api.OK},
		{onesOf(append([]int{2}, slices.Repeat([]int{1}, 2499)...)...), left, 5001, api.ErrSize},
		{onesOf(slices.Repeat([]int{1}, 2501)...), left, 5002, api.ErrSize},
		{onesOf(append(slices.Repeat([]int{1}, 2498), 2)...), left, 4999, api.OK},
		{onesOf(append(slices.Repeat([]int{1}, 2498), 3)...), left, 5000, api.OK},
		{onesOf(append(slices.Repeat([]int{1}, 2498), 4)...), left, 5001, api.ErrSize},
		{lattice(0, 0, 200, 10, 5, 2), hollow, 4800, api.OK},
		{lattice(0, 0, 209, 10, 5, 2), hollow, 5016, api.ErrSize},
		{lattice(0, 0, 5000, 70, 1, 2), beside, 5000, api.OK},
		{lattice(0, 0, 5000, 70, 5, 2), far, 15000, api.ErrSize},
	} {
		p, e := checkStepModel(t, greatest(2, drawn(c.d)), c.p)
		if e != c.wanted || e == api.OK && len(p) != c.size {
			t.Errorf("%d cells lead to %d with the error %d, not to %d with %d", len(c.p), len(p), e, c.size, c.wanted)
		}
	}
}

// P20.2: patterns with MaxCells cells, which the greatest neighbourhood makes 25 times as great, or not at all.
func TestStepFullPatterns(t *testing.T) {
	l := hood.Moore(2)
	for _, p := range []api.Pattern{
		lattice(0, 0, full, 70, 5, 8), lattice(0, 0, full, 70, 1, 8), lattice(-2500, 0, full, full, 1, 8), lattice(7, -2500, full, 1, 1, 8),
		lattice(2-most, 2-most, full, 71, 29000, 8),
	} {
		checkStep(t, greatest(8, l), p, nil, api.ErrSize)
		checkStep(t, reading(8, l, 12), p, p, api.OK)
		checkStep(t, reading(8, l, 11), p, moved(t, p, 1, 0), api.OK)
		checkStep(t, reading(8, l, 7), p, moved(t, p, 0, 1), api.OK)
		checkStep(t, dying(8, l), p, nil, api.OK)
	}
	checkStepModel(t, greatest(8, l), lattice(0, 0, 200, 20, 5, 8))
	checkStep(t, greatest(8, l), lattice(0, 0, 201, 20, 5, 8), nil, api.ErrSize)
}

// P20.2: where a cell is outside and there are too many, the error is ErrRange, be it among the first or the last ones.
func TestStepRangeAndSize(t *testing.T) {
	many := lattice(0, 0, 2501, 50, 3, 2)
	for _, d := range hood.Moore(1) {
		if d == (api.Point{}) {
			continue
		}
		// Each cell leads to itself and to another one.
		own := greatest(2, point.Sort([]api.Point{{}, d}))
		checkStep(t, own, many, nil, api.ErrSize)
		for _, limit := range []int{most - 1, most} {
			p, e := algebra.Over(many, api.Pattern{{X: -d.X * limit, Y: -d.Y * limit, S: 1}})
			if e != api.OK {
				t.Fatalf("Over returns the error %d", e)
			}
			want := api.ErrSize
			if limit == most {
				want = api.ErrRange
			}
			checkStep(t, own, p, nil, want)
		}
	}
	for _, c := range limitCorners {
		own := greatest(8, hood.Moore(1))
		checkStep(t, own, block(c.X/2, c.Y/2, 70, 71, 8), nil, api.ErrSize)
		checkStep(t, own, block(min(c.X, most-69), min(c.Y, most-70), 70, 71, 8), nil, api.ErrRange)
	}
}
