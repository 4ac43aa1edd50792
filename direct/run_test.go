package direct_test

import (
	"fmt"
	"math/rand"
	"slices"
	"testing"

	"cellular/api"
	"cellular/direct"
	"cellular/hood"
	"cellular/notation"
	"cellular/pattern"
)

// parsed returns the rule of a notation, without the function.
func parsed(t *testing.T, s string) rule {
	t.Helper()
	own, e := notation.Parse(s)
	if e != api.OK {
		t.Fatalf("the rule %s has the error %d", s, e)
	}
	return rule{Tree: own}
}

// P20.3, P20.4: generations that are written down.
func TestRunExamples(t *testing.T) {
	for _, c := range []struct {
		rule string
		want []api.Pattern
	}{
		{"B3/S23", []api.Pattern{ones(0, 0, "ooo"), ones(1, -1, "o o o"), ones(0, 0, "ooo"), ones(1, -1, "o o o")}},
		{"B3/S23", []api.Pattern{
			ones(0, 0, glider), ones(0, 1, "o.o .oo .o."), ones(0, 1, "..o o.o .oo"), ones(1, 1, "o.. .oo oo."), ones(1, 1, glider),
		}},
		{"B3/S23", []api.Pattern{ones(0, 0, "o.o ... o.o"), nil, nil, nil, nil}},
		{"B3/S23", []api.Pattern{ones(4, 4, "oo oo"), ones(4, 4, "oo oo"), ones(4, 4, "oo oo")}},
		{"B3/S23", []api.Pattern{ones(0, 0, "oo o."), ones(0, 0, "oo oo"), ones(0, 0, "oo oo"), ones(0, 0, "oo oo")}},
		{"B3/S23", []api.Pattern{ones(0, 0, "o.. .o. ..o"), ones(1, 1, "o"), nil, nil}},
		{"B2/S/C3", []api.Pattern{cells(api.Cell{S: 1}), cells(api.Cell{S: 2}), nil, nil}},
		{"B/S/C5", []api.Pattern{cells(api.Cell{S: 1}), cells(api.Cell{S: 2}), cells(api.Cell{S: 3}), cells(api.Cell{S: 4}), nil, nil}},
		{"W90", []api.Pattern{
			ones(0, 0, "o"), ones(-1, 0, "o.o"), ones(-2, 0, "o...o"), ones(-3, 0, "o.o.o.o"), ones(-4, 0, "o.......o"),
		}},
		{"W30", []api.Pattern{ones(0, 0, "o"), ones(-1, 0, "ooo"), ones(-2, 0, "oo..o"), ones(-3, 0, "oo.oooo"), ones(-4, 0, "oo..o...o")}},
	} {
		own := parsed(t, c.rule)
		for n := range c.want {
			checkRun(t, own, c.want[0], n, c.want[:n+1], api.OK)
		}
	}
}

// P20.3, P20.4: the glider moves by a cell each four generations.
func TestRunGlider(t *testing.T) {
	own := parsed(t, "B3/S23")
	all, e := direct.History(own.Tree, ones(0, 0, glider), 400)
	if e != api.OK || len(all) != 401 {
		t.Fatalf("History returns %d patterns with the error %d", len(all), e)
	}
	phases, _ := historyModel(life(), ones(0, 0, glider), 3)
	for i, p := range all {
		checkPattern(t, fmt.Sprint("generation ", i), p, api.OK, moved(t, phases[i%4], i/4, i/4), api.OK)
	}
	for _, n := range []int{9997, 10000} {
		p, e := direct.Run(own.Tree, ones(-5000, 70, glider), n)
		checkPattern(t, fmt.Sprint("Run by ", n), p, e, moved(t, phases[n%4], n/4-5000, n/4+70), api.OK)
	}
}

// P20.3, P20.4: no generation, which is the pattern itself, even where the next generation is an error.
func TestRunNoGeneration(t *testing.T) {
	for _, p := range []api.Pattern{
		nil, {}, {{S: 1}}, ones(0, 0, glider), ones(0, most, "ooo"), block(most-9, most-9, 10, 10, 2), lattice(0, 0, full, 70, 5, 2), onesOf(full),
	} {
		for _, own := range []rule{life(), greatest(2, hood.Moore(2)), dying(2, drawn(far)), copying(2, -2, -2)} {
			checkRun(t, own, p, 0, []api.Pattern{p}, api.OK)
		}
	}
}

// P20.3, P20.4: random rules with each number of states on all neighbourhoods, by one generation and more.
func TestRunRandom(t *testing.T) {
	rng := rand.New(rand.NewSource(207))
	grown := 0
	for _, l := range allHoods() {
		for states := 2; states <= api.MaxStates; states++ {
			for range 4 {
				own := randomRule(rng, states, l)
				p := randomPattern(rng, rng.Intn(9)-4, rng.Intn(9)-4, 8, 5, states)
				all, e := checkRunModel(t, own, p, 1+rng.Intn(5))
				if e == api.OK && len(all[len(all)-1]) > 0 {
					grown++
				}
			}
		}
	}
	if grown < 200 {
		t.Errorf("only %d patterns remain", grown)
	}
}

// P20.3, P20.4: many generations of random patterns of life, and of some other rules.
func TestRunMany(t *testing.T) {
	rng := rand.New(rand.NewSource(208))
	for range 10 {
		checkRunModel(t, life(), randomPattern(rng, 0, 0, 60, 12, 2), 40)
		checkRunModel(t, summing(2+rng.Intn(7), drawn(line)), randomPattern(rng, 0, 0, 9, 3, 2), 60)
		checkRunModel(t, copying(8, rng.Intn(5)-2, rng.Intn(5)-2), randomPattern(rng, 0, 0, 30, 9, 8), 100)
	}
}

// repeated returns MaxGens generations and the one before them: the given ones, the last ones of which are repeated.
func repeated(period int, l ...api.Pattern) []api.Pattern {
	for len(l) <= api.MaxGens {
		l = append(l, l[len(l)-period])
	}
	return l
}

// P20.3, P20.4: MaxGens generations.
func TestRunGreatestNumber(t *testing.T) {
	dot, two := api.Cell{S: 1}, api.Cell{S: 2}
	late := ones(0, 0, "oo... o.... ..... ....o")
	for _, c := range []struct {
		rule string
		want []api.Pattern
	}{
		{"B3/S23", repeated(1, nil)},
		{"B3/S23", repeated(1, cells(dot), nil)},
		{"B3/S23", repeated(1, ones(0, 0, "o.. .o. ..o"), ones(1, 1, "o"), nil)},
		{"B3/S23", repeated(1, ones(most-1, most-1, "oo oo"))},
		{"B3/S23", repeated(1, late, ones(0, 0, "oo oo"))},
		{"B3/S23", repeated(2, ones(0, 0, "ooo"), ones(1, -1, "o o o"))},
		{"B2/S/C3", repeated(1, cells(dot), cells(two), nil)},
		{"B/S012345678/C8", repeated(1, block(-3, -3, 7, 7, 2))},
		{"W204", repeated(1, onesOf(1, 2, 3, 100))},
		{"W0", repeated(1, onesOf(full), nil)},
	} {
		checkRun(t, parsed(t, c.rule), c.want[0], api.MaxGens, c.want, api.OK)
		checkRun(t, parsed(t, c.rule), c.want[0], api.MaxGens-1, c.want[:api.MaxGens], api.OK)
	}
}

// P20.3: a pattern that stays the same begins to do so after each number of generations.
func TestRunSettles(t *testing.T) {
	for steps := range 12 {
		// A cell with the state s becomes s + 1, but for the greatest state.
		own := machine{0, func(memory, position, state int) int { return state }, func(memory int) int {
			if memory == 0 {
				return 0
			}
			return min(memory+1, 7)
		}}.rule(8, hood.Moore(0))
		var p api.Pattern
		for s := 1; s < 8; s++ {
			if 7-s <= steps {
				p = append(p, api.Cell{X: s, S: s})
			}
		}
		for n := range 20 {
			checkRunModel(t, own, p, n)
		}
	}
}

// P20.3, P20.4: numbers of generations that are not from 0 to MaxGens.
func TestRunNumbers(t *testing.T) {
	still := ones(0, 0, "oo oo")
	for _, p := range []api.Pattern{nil, {}, still, ones(0, most, "ooo"), onesOf(full)} {
		for _, n := range ints {
			if n >= 0 && n <= 10000 {
				continue
			}
			for _, f := range calls[2:] {
				f.checkError(t, life().Tree, p, n, api.ErrArg)
				f.checkError(t, greatest(2, hood.Moore(2)).Tree, p, n, api.ErrArg)
			}
		}
	}
	for _, n := range ints {
		if n >= 0 && n <= 10000 {
			checkRun(t, life(), still, n, slices.Repeat([]api.Pattern{still}, n+1), api.OK)
		}
	}
}

// P20.3, P20.4: the error of a Step after some generations remains that of all greater numbers.
func TestRunErrors(t *testing.T) {
	for _, c := range []struct {
		own    rule
		p      api.Pattern
		last   int // the number of the last generation
		wanted api.Errno
	}{
		{copying(2, -1, 0), cells(api.Cell{X: most - 10, S: 1}), 10, api.ErrRange},
		{copying(3, 2, -2), cells(api.Cell{X: 21 - most, Y: most - 29, S: 2}), 10, api.ErrRange},
		{copying(3, 2, -2), cells(api.Cell{X: 29 - most, Y: most - 21, S: 2}), 10, api.ErrRange},
		{copying(2, 0, 1), cells(api.Cell{Y: 3 - most, S: 1}, api.Cell{Y: most, S: 1}), 3, api.ErrRange},
		{life(), ones(most-2, most-2, glider), 0, api.ErrRange},
		{life(), ones(0, most-12, glider), 40, api.ErrRange},
		{life(), ones(most-12, 0, glider), 42, api.ErrRange},
		{greatest(2, hood.Moore(1)), cells(api.Cell{S: 1}), 34, api.ErrSize},
		{greatest(2, hood.Moore(2)), cells(api.Cell{S: 1}), 17, api.ErrSize},
		{greatest(8, drawn(left)), block(0, 0, 1, 50, 8), 99, api.ErrSize},
		{greatest(8, drawn(left)), block(0, 0, 1, 51, 8), 97, api.ErrSize},
		{greatest(2, hood.Moore(1)), cells(api.Cell{X: most - 30, S: 1}), 30, api.ErrRange},
		{greatest(2, hood.Moore(1)), cells(api.Cell{X: most - 34, Y: most - 34, S: 1}), 34, api.ErrRange},
		{greatest(2, hood.Moore(1)), cells(api.Cell{X: most - 35, Y: most - 35, S: 1}), 34, api.ErrSize},
	} {
		all, e := historyModel(c.own, c.p, c.last)
		if _, wanted := stepModel(c.own, all[c.last]); e != api.OK || wanted != c.wanted {
			t.Fatalf("the last generation of %v is not the one with the number %d", short(c.p), c.last)
		}
		for _, n := range []int{0, 1, c.last - 1, c.last, c.last + 1, c.last + 2, c.last + 50, api.MaxGens} {
			switch {
			case n > c.last:
				checkRun(t, c.own, c.p, n, nil, c.wanted)
			case n >= 0:
				checkRun(t, c.own, c.p, n, all[:n+1], api.OK)
			}
		}
	}
}

// P20.4: each pattern is the one before after a Step, and that of Run by its number.
func TestHistoryIsRun(t *testing.T) {
	rng := rand.New(rand.NewSource(209))
	for range 100 {
		l := allHoods()[rng.Intn(len(allHoods()))]
		states := 2 + rng.Intn(7)
		own := remembering(rng, 2+rng.Intn(9), states, l, 4)
		p := randomPattern(rng, 0, 0, 9, 4, states)
		n := rng.Intn(12)
		all, e := direct.History(own.Tree, p, n)
		if e != api.OK || len(all) != n+1 {
			t.Fatalf("History by %d returns %d patterns with the error %d", n, len(all), e)
		}
		for i := range all {
			got, e := direct.Run(own.Tree, p, i)
			checkPattern(t, fmt.Sprint("Run by ", i), got, e, all[i], api.OK)
			if i > 0 {
				got, e = direct.Step(own.Tree, all[i-1])
				checkPattern(t, "Step", got, e, all[i], api.OK)
			}
		}
		if !pattern.Same(all[0], p) {
			t.Errorf("History begins with %v, not with %v", short(all[0]), short(p))
		}
	}
}
