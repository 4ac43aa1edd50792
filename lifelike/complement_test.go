package lifelike_test

import (
	"math/rand"
	"slices"
	"testing"

	"cellular/api"
	"cellular/lifelike"
)

// P8.4
func TestComplementExamples(t *testing.T) {
	for s, want := range map[string]string{
		"B3/S23":                "B0123478/S01234678",
		"B0123478/S01234678":    "B3/S23",
		"B/S":                   "B012345678/S012345678",
		"B012345678/S012345678": "B/S",
		"B0/S":                  "B012345678/S01234567",
		"B/S0":                  "B01234567/S012345678",
		"B/SV":                  "B01234/S01234V",
		"B01234/S4V":            "B1234/SV",
		"B1/S03V":               "B023/S0124V",
		"B/SH":                  "B0123456/S0123456H",
		"B2/S34H":               "B01456/S012356H",
		"B3678/S34678":          "B3678/S34678",
		"B5678/S45678":          "B5678/S45678",
	} {
		r, _ := parseModel(s)
		got, e := lifelike.Complement(r)
		if e != api.OK || textModel(got) != want {
			t.Errorf("the complement of %s is %s, %v and the error %d, not %s", s, textModel(got), got, e, want)
		}
	}
}

// P8.4: rules that are not valid, or have more than two states, among others.
func TestComplementOfSomeRules(t *testing.T) {
	for _, r := range someRules() {
		want, expected := complementModel(r)
		unchanged(t, r, func(r api.Totals) {
			got, e := lifelike.Complement(r)
			if e != expected || !equal(got, want) {
				t.Errorf("Complement(%v) is %v and the error %d", short(r), got, e)
			}
			if e != api.OK && !isZero(got) {
				t.Errorf("Complement(%v) is %v with the error %d", short(r), got, e)
			}
		})
	}
}

// P8.4: rules with more than two states are not valid arguments, even though they are valid.
func TestComplementStates(t *testing.T) {
	for _, letter := range usual {
		for _, s := range states {
			want := api.ErrArg
			if s == 2 {
				want = api.OK
			}
			r := ruleOf(letter, 1<<3, 1<<2|1<<3)
			r.States = s
			if got, e := lifelike.Complement(r); e != want || isZero(got) != (s != 2) {
				t.Errorf("with %d states, Complement(%v) is %v and the error %d", s, r, got, e)
			}
		}
	}
}

// P8.4: the new states of every rule with two states, and its complement's complement.
func TestComplementOfAllRules(t *testing.T) {
	for _, letter := range usual {
		n := len(usualHood(letter)) - 1
		for r := range everyRule(letter) {
			c, e := lifelike.Complement(r)
			if e != api.OK || !rightModel(c) || c.States != 2 || len(c.Hood) != n+1 {
				t.Fatalf("Complement(%v) is %v and the error %d", r, c, e)
			}
			for k := range n + 1 {
				if next(c, 0, k) != 1-next(r, 1, n-k) || next(c, 1, k) != 1-next(r, 0, n-k) {
					t.Fatalf("Complement(%v) is %v, which is wrong for %d neighbours", r, c, k)
				}
			}
			if back, e := lifelike.Complement(c); e != api.OK || !equal(back, r) {
				t.Fatalf("the complement of the complement of %v is %v, and the error %d", r, back, e)
			}
		}
	}
}

// side is the width and the height of the tori on which rules are tried.
const side = 6

// evolved returns the next generation of a torus.
func evolved(r api.Totals, cells [side][side]int) [side][side]int {
	var result [side][side]int
	for y := range side {
		for x := range side {
			count := 0
			for _, p := range r.Hood {
				if p != (api.Point{}) {
					count += cells[(y+p.Y+side)%side][(x+p.X+side)%side]
				}
			}
			result[y][x] = next(r, cells[y][x], count)
		}
	}
	return result
}

// exchanged returns a torus with the states 0 and 1 exchanged.
func exchanged(cells [side][side]int) [side][side]int {
	for y := range side {
		for x := range side {
			cells[y][x] = 1 - cells[y][x]
		}
	}
	return cells
}

// P8.4: the complement does to cells with exchanged states what the rule does to the cells.
func TestComplementOnTori(t *testing.T) {
	rng := rand.New(rand.NewSource(84))
	for i := range 3000 {
		r := ruleOf(usual[i%3], 0, 0)
		r.Birth, r.Survive = numbersOf(rng.Intn(1<<len(r.Hood))), numbersOf(rng.Intn(1<<len(r.Hood)))
		var cells [side][side]int
		for k := range side * side {
			cells[k/side][k%side] = rng.Intn(2)
		}
		c, _ := lifelike.Complement(r)
		if got, want := evolved(c, exchanged(cells)), exchanged(evolved(r, cells)); got != want {
			t.Errorf("the complement of %v leads from %v to %v, not to %v", r, exchanged(cells), got, want)
		}
	}
}

// P8.4: the result shares no memory with the rule, and its lists share none with each other.
func TestComplementResultsAreNew(t *testing.T) {
	list := []api.Totals{
		ruleOf("", 1<<3, 1<<2|1<<3), ruleOf("", 0, 0), ruleOf("", 1<<9-1, 1<<9-1), ruleOf("", 0x1c8, 0x1d8), ruleOf("", 0x1e0, 0x1f0),
		ruleOf("H", 1<<2, 1<<3|1<<4), ruleOf("H", 0, 0), ruleOf("H", 1<<7-1, 1<<7-1), ruleOf("H", 0x70, 0x78),
	}
	list = append(list, slices.Collect(everyRule("V"))...)
	for _, r := range list {
		want, _ := complementModel(r)
		for part := range parts {
			given := laidOut(r)
			got, _ := lifelike.Complement(given)
			spoil(given, part)
			if !equal(got, want) {
				t.Errorf("a change of the list %d of the rule %v changes its complement to %v", part, r, got)
			}
			given = laidOut(r)
			got, _ = lifelike.Complement(given)
			spoil(got, part)
			if !equal(whole(given), whole(laidOut(r))) {
				t.Errorf("a change of the list %d of the complement changes the rule %v to %v", part, r, given)
			}
			if !equal(without(got, part), without(want, part)) {
				t.Errorf("a change of the list %d of the complement of %v leads to %v", part, r, got)
			}
			if again, _ := lifelike.Complement(given); !equal(again, want) {
				t.Errorf("after a change of the list %d of the complement of %v, the next one is %v", part, r, again)
			}
		}
	}
}
