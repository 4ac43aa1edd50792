package lifelike_test

import (
	"math"
	"slices"
	"testing"

	"cellular/api"
	"cellular/lifelike"
)

// P8.1
func TestRightExamples(t *testing.T) {
	for _, letter := range usual {
		l := usualHood(letter)
		full := numbersOf(1<<len(l) - 1)
		for _, r := range []api.Totals{
			{Hood: l, States: 2},
			{Hood: l, States: 2, Birth: []int{}, Survive: []int{}},
			{Hood: l, States: 2, Birth: full, Survive: full},
			{Hood: l, States: 2, Birth: []int{len(l) - 1}},
			{Hood: l, States: 2, Survive: []int{len(l) - 1}},
			{Hood: l, States: 3, Birth: []int{0}, Survive: []int{0, 4}},
			{Hood: l, States: api.MaxStates, Birth: []int{3}, Survive: []int{2, 3}},
		} {
			if !lifelike.Right(r) {
				t.Errorf("the rule %v is valid", r)
			}
		}
		for _, r := range []api.Totals{
			{Hood: l},
			{Hood: l, States: 1},
			{Hood: l, States: -1},
			{Hood: l, States: math.MinInt},
			{Hood: l, States: math.MaxInt},
			{Hood: l, States: api.MaxStates + 1},
			{Hood: l[1:], States: 2},
			{Hood: l[:len(l)-1], States: 2},
			{Hood: l, States: 2, Birth: []int{len(l)}},
			{Hood: l, States: 2, Survive: []int{len(l)}},
			{Hood: l, States: 2, Birth: []int{-1}},
			{Hood: l, States: 2, Survive: []int{-1}},
			{Hood: l, States: 2, Birth: []int{3, 2}},
			{Hood: l, States: 2, Survive: []int{3, 2}},
			{Hood: l, States: 2, Birth: []int{3, 3}},
			{Hood: l, States: 2, Survive: []int{3, 3}},
		} {
			if lifelike.Right(r) {
				t.Errorf("the rule %v is not valid", r)
			}
		}
	}
}

// P8.1
func TestRightOfSomeRules(t *testing.T) {
	for _, r := range someRules() {
		unchanged(t, r, func(r api.Totals) {
			if got := lifelike.Right(r); got != rightModel(r) {
				t.Errorf("Right(%v) is %v", short(r), got)
			}
		})
	}
}

// P8.1: every list of up to three numbers near the limits, in all orders.
func TestRightShortLists(t *testing.T) {
	var list [][]int
	for i := range 12 * 12 * 12 {
		l := []int{i%12 - 1, i/12%12 - 1, i/144 - 1}
		list = append(list, l, l[:2], l[:1])
	}
	for _, letter := range usual {
		for _, l := range list {
			want := isList(l, len(usualHood(letter)))
			if got := lifelike.Right(api.Totals{Hood: usualHood(letter), States: 2, Birth: l}); got != want {
				t.Errorf("Right with Birth %v and the letter %q is %v", l, letter, got)
			}
			if got := lifelike.Right(api.Totals{Hood: usualHood(letter), States: 8, Survive: l}); got != want {
				t.Errorf("Right with Survive %v and the letter %q is %v", l, letter, got)
			}
		}
	}
}

// P8.1
func TestSameExamples(t *testing.T) {
	life := ruleOf("", 1<<3, 1<<2|1<<3)
	for _, c := range []struct {
		a, b api.Totals
		want bool
	}{
		{life, life, true},
		{life, ruleOf("", 1<<3, 1<<2|1<<3), true},
		{life, laidOut(life), true},
		{api.Totals{}, api.Totals{}, true},
		{api.Totals{}, api.Totals{Hood: []api.Point{}, Birth: []int{}, Survive: []int{}}, true},
		{ruleOf("", 0, 0), api.Totals{Hood: usualHood(""), States: 2, Birth: []int{}, Survive: []int{}}, true},
		{api.Totals{Birth: []int{5, -1}}, api.Totals{Birth: []int{5, -1}}, true},
		{api.Totals{Birth: []int{5, -1}}, api.Totals{Birth: []int{-1, 5}}, false},
		{api.Totals{Birth: []int{1}}, api.Totals{Survive: []int{1}}, false},
		{api.Totals{Birth: []int{1}, Survive: []int{2, 3}}, api.Totals{Birth: []int{1, 2}, Survive: []int{3}}, false},
		{api.Totals{States: math.MinInt}, api.Totals{States: math.MinInt}, true},
		{api.Totals{States: math.MinInt}, api.Totals{States: math.MaxInt}, false},
		{api.Totals{States: 2}, api.Totals{States: 1<<32 + 2}, false},
		{life, ruleOf("V", 1<<3, 1<<2|1<<3), false},
		{life, ruleOf("H", 1<<3, 1<<2|1<<3), false},
		{ruleOf("V", 1<<3, 0), ruleOf("H", 1<<3, 0), false},
	} {
		checkSame(t, c.a, c.b, c.want)
		checkSame(t, c.b, c.a, c.want)
	}
}

// P8.1: rules that differ in one field alone, among them lists of which one is the beginning of the other.
func TestSameOneFieldChanged(t *testing.T) {
	for _, letter := range usual {
		for _, s := range []int{math.MinInt, 2, 3} {
			r := api.Totals{Hood: usualHood(letter), States: s, Birth: []int{3, 6}, Survive: []int{2, 3}}
			var list []api.Totals
			for _, l := range append(wrongHoods(), usualHood(""), usualHood("V"), usualHood("H")) {
				list = append(list, api.Totals{Hood: l, States: s, Birth: r.Birth, Survive: r.Survive})
			}
			for _, other := range states {
				list = append(list, api.Totals{Hood: r.Hood, States: other, Birth: r.Birth, Survive: r.Survive})
			}
			for _, l := range append(someNumbers(), r.Birth[:1], r.Birth[1:], []int{3, 6, 7}, []int{3, 5}, []int{2, 6}) {
				list = append(list, api.Totals{Hood: r.Hood, States: s, Birth: l, Survive: r.Survive})
			}
			for _, l := range append(someNumbers(), r.Survive[:1], r.Survive[1:], []int{2, 3, 4}, []int{2, 4}, []int{1, 3}) {
				list = append(list, api.Totals{Hood: r.Hood, States: s, Birth: r.Birth, Survive: l})
			}
			for _, other := range list {
				checkSame(t, r, other, equal(r, other))
				checkSame(t, other, r, equal(r, other))
			}
		}
	}
}

// P8.1: rules of all kinds with each other.
func TestSameOfSomeRules(t *testing.T) {
	var list []api.Totals
	for i, r := range someRules() {
		if i%53 == 0 && len(r.Hood) < 100 && len(r.Birth) < 100 && len(r.Survive) < 100 {
			list = append(list, r)
		}
	}
	for _, a := range list {
		checkSame(t, a, filled(a), true)
		for _, b := range list {
			if got := lifelike.Same(a, b); got != equal(a, b) {
				t.Errorf("Same(%v, %v) is %v", a, b, got)
			}
		}
	}
}

// P8.1: long lists count to their ends.
func TestSameLongLists(t *testing.T) {
	long := make([]int, 100000)
	other := slices.Clone(long)
	other[len(other)-1] = 1
	for _, l := range [][]int{other, long[1:], append(slices.Clone(long), 0), nil} {
		checkSame(t, api.Totals{Birth: long}, api.Totals{Birth: l}, false)
		checkSame(t, api.Totals{Survive: l}, api.Totals{Survive: long}, false)
	}
	checkSame(t, api.Totals{Birth: long, Survive: other}, api.Totals{Birth: slices.Clone(long), Survive: slices.Clone(other)}, true)
}

// checkSame compares Same with what is expected.
func checkSame(t *testing.T, a, b api.Totals, want bool) {
	t.Helper()
	unchanged(t, a, func(a api.Totals) {
		unchanged(t, b, func(b api.Totals) {
			if got := lifelike.Same(a, b); got != want {
				t.Errorf("Same(%v, %v) is %v", short(a), short(b), got)
			}
		})
	})
}
