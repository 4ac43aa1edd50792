package generations_test

import (
	"math"
	"slices"
	"testing"

	"cellular/api"
	"cellular/generations"
	"cellular/lifelike"
)

// P9.3
func TestNextExamples(t *testing.T) {
	for _, c := range []struct {
		rule                api.Totals
		state, count, wants int
	}{
		{ruleOf("", "2", "", 3), 0, 2, 1},
		{ruleOf("", "2", "", 3), 0, 1, 0},
		{ruleOf("", "2", "", 3), 0, 3, 0},
		{ruleOf("", "2", "", 3), 1, 2, 2},
		{ruleOf("", "2", "", 3), 1, 0, 2},
		{ruleOf("", "2", "", 3), 1, 8, 2},
		{ruleOf("", "2", "", 3), 2, 2, 0},
		{ruleOf("", "2", "345", 4), 1, 3, 1},
		{ruleOf("", "2", "345", 4), 1, 2, 2},
		{ruleOf("", "2", "345", 4), 2, 2, 3},
		{ruleOf("", "2", "345", 4), 2, 3, 3},
		{ruleOf("", "2", "345", 4), 3, 3, 0},
		{ruleOf("", "2", "345", 4), 0, 3, 0},
		{ruleOf("", "3", "23", 2), 0, 3, 1},
		{ruleOf("", "3", "23", 2), 0, 2, 0},
		{ruleOf("", "3", "23", 2), 1, 2, 1},
		{ruleOf("", "3", "23", 2), 1, 4, 0},
		{ruleOf("V", "4", "0", 8), 0, 4, 1},
		{ruleOf("V", "4", "0", 8), 1, 0, 1},
		{ruleOf("V", "4", "0", 8), 1, 4, 2},
		{ruleOf("V", "4", "0", 8), 6, 4, 7},
		{ruleOf("V", "4", "0", 8), 7, 0, 0},
		{ruleOf("H", "06", "6", 3), 0, 6, 1},
		{ruleOf("H", "06", "6", 3), 0, 0, 1},
		{ruleOf("H", "06", "6", 3), 1, 6, 1},
		{ruleOf("H", "06", "6", 3), 1, 0, 2},
		{ruleOf("H", "06", "6", 3), 2, 6, 0},
		// States and counts that the rule does not have.
		{ruleOf("", "2", "", 3), 3, 2, 0},
		{ruleOf("", "2", "", 3), -1, 2, 0},
		{ruleOf("", "2", "", 4), 2, 9, 0},
		{ruleOf("", "2", "", 4), 2, -1, 0},
		{ruleOf("", "", "", 4), 1, 9, 0},
		{ruleOf("V", "", "", 4), 1, 5, 0},
		{ruleOf("H", "", "", 4), 1, 7, 0},
		{ruleOf("", "", "", 2), 2, 0, 0},
		{ruleOf("", "", "", 8), 8, 0, 0},
		{ruleOf("", "", "", 8), math.MaxInt, 0, 0},
		{ruleOf("", "", "", 8), math.MinInt, 0, 0},
		{ruleOf("", "", "", 8), 5, math.MaxInt, 0},
		{ruleOf("", "", "", 8), 5, math.MinInt, 0},
		// Rules that are not valid.
		{ruleOf("", "32", "", 3), 0, 2, 0},
		{ruleOf("", "2", "33", 3), 0, 2, 0},
		{ruleOf("V", "25", "", 3), 0, 2, 0},
		{ruleOf("", "2", "", 9), 1, 2, 0},
		{ruleOf("", "0", "0", 1), 0, 0, 0},
		{api.Totals{States: 3, Birth: []int{0}}, 0, 0, 0},
	} {
		if got := generations.Next(c.rule, c.state, c.count); got != c.wants {
			t.Errorf("Next(%v, %d, %d) is %d, not %d", c.rule, c.state, c.count, got, c.wants)
		}
	}
}

// P9.3: valid rules, with states and counts of all kinds.
func TestNextOfValidRules(t *testing.T) {
	for _, r := range validRules() {
		unchanged(t, r, func(r api.Totals) {
			for _, state := range around(r.States) {
				for _, count := range around(len(r.Hood)) {
					if got := generations.Next(r, state, count); got != nextModel(r, state, count) {
						t.Errorf("Next(%v, %d, %d) is %d", r, state, count, got)
					}
				}
			}
		})
	}
}

// P9.3: rules of which many are not valid; a count is one of the list that may be wrong.
func TestNextOfSomeRules(t *testing.T) {
	for _, r := range someRules() {
		unchanged(t, r, func(r api.Totals) {
			for _, state := range []int{math.MinInt, -1, 0, 1, 2, 3, r.States - 1, r.States, math.MaxInt} {
				for _, count := range []int{math.MinInt, -1, 0, 1, 2, 3, len(r.Hood) - 1, len(r.Hood), math.MaxInt} {
					if got := generations.Next(r, state, count); got != nextModel(r, state, count) {
						t.Errorf("Next(%v, %d, %d) is %d", short(r), state, count, got)
					}
				}
			}
		})
	}
}

// P9.3: every rule of the two smaller neighbourhoods, with all of its states and counts.
func TestNextOfAllRules(t *testing.T) {
	for _, letter := range []string{"V", "H"} {
		for birth, survive := range everyList(letter) {
			r := ruleOf(letter, birth, survive, 2+(len(birth)+2*len(survive))%7)
			for count := range len(r.Hood) {
				for state := range r.States {
					if got := generations.Next(r, state, count); got != nextModel(r, state, count) {
						t.Fatalf("Next(%v, %d, %d) is %d", r, state, count, got)
					}
				}
			}
		}
	}
}

// P9.7: for the states 0 and 1 a rule has the new state 1 just if the plain rule has it.
func TestNextOfPlainRules(t *testing.T) {
	for _, r := range validRules() {
		plain := generations.Plain(r)
		for count := range len(r.Hood) {
			for state, own := range [][]int{r.Birth, r.Survive} {
				got := generations.Next(r, state, count) == 1
				if got != (generations.Next(plain, state, count) == 1) || got != slices.Contains(own, count) {
					t.Errorf("whether %d with %d neighbours becomes 1 is %v for %v, unlike for %v", state, count, got, r, plain)
				}
			}
		}
	}
}

// P9.6: a dying cell goes through all states that follow, whatever its neighbours are.
func TestDying(t *testing.T) {
	for i, r := range validRules() {
		for first := 2; first < r.States; first++ {
			state := first
			for age := 1; age <= r.States-first; age++ {
				state = generations.Next(r, state, (i+age*age)%len(r.Hood))
				want := first + age
				if want == r.States {
					want = 0
				}
				if state != want {
					t.Errorf("under %v a cell in the state %d has the state %d after %d generations", r, first, state, age)
				}
			}
		}
	}
}

// P9.6: each count leads from a dying state to the same one.
func TestDyingAtEachCount(t *testing.T) {
	for _, r := range validRules() {
		for count := range len(r.Hood) {
			for state := 2; state < r.States-1; state++ {
				if got := generations.Next(r, state, count); got != state+1 {
					t.Errorf("Next(%v, %d, %d) is %d", r, state, count, got)
				}
			}
			if got := generations.Next(r, r.States-1, count); r.States > 2 && got != 0 {
				t.Errorf("Next(%v, %d, %d) is %d", r, r.States-1, count, got)
			}
		}
	}
}

// P9.4: rules that are not valid lead to the zero value.
func TestPlain(t *testing.T) {
	for _, r := range append(someRules(), validRules()...) {
		unchanged(t, r, func(r api.Totals) {
			got := generations.Plain(r)
			if !equal(got, plainModel(r)) || isZero(got) == rightModel(r) {
				t.Errorf("Plain(%v) is %v", short(r), got)
			}
			if !isZero(got) && !lifelike.Right(got) {
				t.Errorf("Plain(%v) is %v, which is not valid", short(r), got)
			}
		})
	}
}

// P9.4: each number of states, also at the limits of int.
func TestPlainStates(t *testing.T) {
	for _, letter := range usual {
		for _, s := range ints {
			want := api.Totals{}
			if s >= 2 && s <= api.MaxStates {
				want = ruleOf(letter, "13", "024", 2)
			}
			if got := generations.Plain(ruleOf(letter, "13", "024", s)); !equal(got, want) {
				t.Errorf("with %d states and the letter %q Plain returns %v", s, letter, got)
			}
		}
	}
}

// P9.4: the plain rule of a plain rule is the rule.
func TestPlainOfPlain(t *testing.T) {
	for _, letter := range []string{"V", "H"} {
		for birth, survive := range everyList(letter) {
			want := ruleOf(letter, birth, survive, 2)
			if got := generations.Plain(generations.Plain(want)); !equal(got, want) {
				t.Fatalf("Plain of Plain(%v) is %v", want, got)
			}
		}
	}
}

// P9.4: the result shares no memory with the rule, and its lists share none with each other.
func TestPlainResultsAreNew(t *testing.T) {
	for _, r := range validRules() {
		want := plainModel(r)
		for part := range parts {
			given := laidOut(r)
			got := generations.Plain(given)
			spoil(given, part)
			if !equal(got, want) {
				t.Errorf("a change of the list %d of the rule %v changes its plain rule to %v", part, r, got)
			}
			given = laidOut(r)
			got = generations.Plain(given)
			rest := spoil(got, part)
			if !equal(whole(given), whole(laidOut(r))) {
				t.Errorf("a change of the list %d of the plain rule changes the rule %v to %v", part, r, given)
			}
			if !equal(rest, spoil(laidOut(want), part)) {
				t.Errorf("a change of the list %d of the plain rule of %v leads to %v", part, r, rest)
			}
			if again := generations.Plain(given); !equal(again, want) {
				t.Errorf("after a change of the list %d of the plain rule of %v, the next one is %v", part, r, again)
			}
		}
	}
}

// P9.4: even lists that share memory in the rule share none in the result.
func TestPlainOfSharedLists(t *testing.T) {
	l := numbers("0123")
	for _, r := range []api.Totals{
		{Hood: offsets("V"), States: 4, Birth: l, Survive: l},
		{Hood: offsets(""), States: 3, Birth: l[:2], Survive: l[2:]},
		{Hood: offsets("H"), States: 8, Birth: l[1:3], Survive: l[:3]},
		{Hood: offsets(""), States: 2, Birth: l[:0], Survive: l},
	} {
		want := ruleOf("", digits(r.Birth), digits(r.Survive), 2)
		want.Hood = slices.Clone(r.Hood)
		for part := range parts {
			got := generations.Plain(r)
			if !equal(got, want) {
				t.Errorf("Plain(%v) is %v", r, got)
			}
			rest := spoil(got, part)
			if !equal(rest, spoil(laidOut(want), part)) || !slices.Equal(l, numbers("0123")) {
				t.Errorf("a change of the list %d of the plain rule of %v leads to %v and %v", part, r, rest, l)
			}
		}
	}
}
