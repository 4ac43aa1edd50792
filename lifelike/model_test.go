package lifelike_test

import (
	"iter"
	"math"
	"reflect"
	"regexp"
	"slices"
	"strings"
	"testing"

	"cellular/api"
)

// The tests compare package lifelike with a model in which neighbourhoods are written out, lists of numbers are made from the bits
// of a number, notations are matched by a regular expression, and the states of cells are looked up one by one.

// form is that of all notations, with any digits.
var form = regexp.MustCompile(`^B(0?1?2?3?4?5?6?7?8?9?)/S(0?1?2?3?4?5?6?7?8?9?)([VH]?)$`)

// usual are the letters that stand for the neighbourhoods.
var usual = []string{"", "V", "H"}

// usualHood returns the neighbourhood for which a letter stands.
func usualHood(letter string) []api.Point {
	switch letter {
	case "V":
		return []api.Point{{Y: -1}, {X: -1}, {}, {X: 1}, {Y: 1}}
	case "H":
		return []api.Point{{X: -1, Y: -1}, {Y: -1}, {X: -1}, {}, {X: 1}, {Y: 1}, {X: 1, Y: 1}}
	}
	return []api.Point{
		{X: -1, Y: -1}, {Y: -1}, {X: 1, Y: -1}, {X: -1}, {}, {X: 1}, {X: -1, Y: 1}, {Y: 1}, {X: 1, Y: 1},
	}
}

// numbersOf returns the numbers of the bits that are set, in order.
func numbersOf(bits int) []int {
	var l []int
	for n := range 10 {
		if bits>>n&1 == 1 {
			l = append(l, n)
		}
	}
	return l
}

// ruleOf returns the rule with two states that has a neighbourhood and the numbers of bits.
func ruleOf(letter string, birth, survive int) api.Totals {
	return api.Totals{Hood: usualHood(letter), States: 2, Birth: numbersOf(birth), Survive: numbersOf(survive)}
}

// everyRule produces all rules with two states that have the neighbourhood for which a letter stands.
func everyRule(letter string) iter.Seq[api.Totals] {
	return func(yield func(api.Totals) bool) {
		n := len(usualHood(letter))
		for i := range 1 << (2 * n) {
			if !yield(ruleOf(letter, i&(1<<n-1), i>>n)) {
				return
			}
		}
	}
}

// letterModel returns the letter that stands for a neighbourhood, and whether there is one.
func letterModel(l []api.Point) (string, bool) {
	for _, letter := range usual {
		if slices.Equal(usualHood(letter), l) {
			return letter, true
		}
	}
	return "", false
}

// isList reports whether a list is the one of all numbers below a limit that it contains.
func isList(l []int, limit int) bool {
	var had []int
	for n := range limit {
		if slices.Contains(l, n) {
			had = append(had, n)
		}
	}
	return slices.Equal(had, l)
}

// rightModel returns what Right has to return.
func rightModel(t api.Totals) bool {
	_, is := letterModel(t.Hood)
	return is && 2 <= t.States && t.States <= 8 && isList(t.Birth, len(t.Hood)) && isList(t.Survive, len(t.Hood))
}

// textModel returns what Text has to return.
func textModel(t api.Totals) string {
	if !rightModel(t) || t.States != 2 {
		return ""
	}
	letter, _ := letterModel(t.Hood)
	s := []byte{'B'}
	for _, n := range t.Birth {
		s = append(s, byte('0'+n))
	}
	s = append(s, '/', 'S')
	for _, n := range t.Survive {
		s = append(s, byte('0'+n))
	}
	return string(s) + letter
}

// parseModel returns what Parse has to return.
func parseModel(s string) (api.Totals, api.Errno) {
	found := form.FindStringSubmatch(s)
	if found == nil {
		return api.Totals{}, api.ErrSyntax
	}
	t := api.Totals{Hood: usualHood(found[3]), States: 2}
	for n := range 10 {
		digit := string(rune('0' + n))
		birth, survives := strings.Contains(found[1], digit), strings.Contains(found[2], digit)
		if (birth || survives) && n >= len(t.Hood) {
			return api.Totals{}, api.ErrRange
		}
		if birth {
			t.Birth = append(t.Birth, n)
		}
		if survives {
			t.Survive = append(t.Survive, n)
		}
	}
	return t, api.OK
}

// next returns the new state, under a rule with two states, of a cell with a state and a number of neighbours.
func next(t api.Totals, state, count int) int {
	l := t.Birth
	if state == 1 {
		l = t.Survive
	}
	if slices.Contains(l, count) {
		return 1
	}
	return 0
}

// complementModel returns what Complement has to return, from the new states of the rule.
func complementModel(t api.Totals) (api.Totals, api.Errno) {
	if !rightModel(t) || t.States != 2 {
		return api.Totals{}, api.ErrArg
	}
	letter, _ := letterModel(t.Hood)
	n := len(t.Hood) - 1
	birth, survive := 0, 0
	for k := range n + 1 {
		birth |= (1 - next(t, 1, n-k)) << k
		survive |= (1 - next(t, 0, n-k)) << k
	}
	return ruleOf(letter, birth, survive), api.OK
}

// filled returns a rule whose empty lists are not nil.
func filled(t api.Totals) api.Totals {
	return api.Totals{
		Hood:    append([]api.Point{}, t.Hood...),
		States:  t.States,
		Birth:   append([]int{}, t.Birth...),
		Survive: append([]int{}, t.Survive...),
	}
}

// equal returns what Same has to return.
func equal(a, b api.Totals) bool {
	return reflect.DeepEqual(filled(a), filled(b))
}

// isZero reports whether a rule is the zero value.
func isZero(t api.Totals) bool {
	return t.Hood == nil && t.States == 0 && t.Birth == nil && t.Survive == nil
}

// states are numbers of states, also at the limits of rules and of int.
var states = []int{
	math.MinInt, math.MinInt + 1, math.MinInt + 2, -1 << 32, -2, -1, 0, 1, 2, 3, 4, api.MaxStates - 1, api.MaxStates,
	api.MaxStates + 1, 256 + 2, 1<<32 + 2, math.MaxInt - 1, math.MaxInt,
}

// someNumbers returns lists of numbers of neighbours, many of which are wrong for all neighbourhoods or for some of them.
func someNumbers() [][]int {
	list := [][]int{
		nil, {}, {2, 3}, {0, 2, 4}, {1, 3}, {0, 1, 2, 3, 4, 5, 6, 7, 8, 9},
		{1, 0}, {3, 2}, {0, 2, 1}, {2, 0, 1}, {2, 1, 0}, {0, 0}, {1, 1}, {4, 4}, {0, 1, 1}, {0, 0, 1}, {0, 1, 1, 2}, {0, 1, 0}, {1, 2, 1},
		{-1}, {-1, 0}, {-1, 0, 1}, {0, -1}, {1, 2, -1}, {-2, -1}, {math.MinInt}, {math.MaxInt}, {math.MinInt, 0}, {0, math.MinInt},
		{0, math.MaxInt}, {math.MaxInt, 0}, {math.MinInt, math.MaxInt}, {math.MaxInt, math.MinInt}, {0, math.MaxInt, 1},
		{0, math.MinInt, 1}, {math.MaxInt, math.MaxInt}, {math.MinInt, math.MinInt}, {1 << 32}, {0, 1<<32 + 1}, {256}, {1, 258},
		make([]int, 100000),
	}
	for _, n := range []int{5, 7, 9} {
		full := numbersOf(1<<n - 1)
		down := slices.Clone(full)
		slices.Reverse(down)
		list = append(list, full, down, append(slices.Clone(full), n), append(slices.Clone(full), n-1), append(slices.Clone(full), 0),
			append([]int{-1}, full...), append([]int{0}, full...), slices.Repeat(full, 2), []int{n - 2, n - 1}, []int{n - 1, n},
			[]int{n - 1, n - 2}, []int{n, n - 1}, []int{n - 1, n - 1}, []int{0, n - 1}, []int{0, n})
	}
	for n := range 11 {
		list = append(list, []int{n}, numbersOf(1<<10-1-1<<n))
	}
	return list
}

// wrongHoods returns lists that are none of the usual neighbourhoods, some of which are valid neighbourhoods.
func wrongHoods() [][]api.Point {
	list := [][]api.Point{
		nil, {}, {{}}, {{X: 1}}, {{X: -1}, {}, {X: 1}}, {{Y: -1}, {}, {Y: 1}}, offsets25(),
		{{Y: -1}, {X: 1, Y: -1}, {X: -1}, {}, {X: 1}, {X: -1, Y: 1}, {Y: 1}},
		{
			{Y: -2}, {X: -1, Y: -1}, {Y: -1}, {X: 1, Y: -1}, {X: -2}, {X: -1}, {}, {X: 1}, {X: 2}, {X: -1, Y: 1}, {Y: 1}, {X: 1, Y: 1}, {Y: 2},
		},
		make([]api.Point, 5), make([]api.Point, 7), make([]api.Point, 9), make([]api.Point, 100000),
	}
	for _, letter := range usual {
		list = append(list, changedHoods(usualHood(letter))...)
	}
	return slices.DeleteFunc(list, func(l []api.Point) bool {
		_, is := letterModel(l)
		return is
	})
}

// offsets25 returns all offsets that a neighbourhood may have, in order.
func offsets25() []api.Point {
	var list []api.Point
	for i := range 25 {
		list = append(list, api.Point{X: i%5 - 2, Y: i/5 - 2})
	}
	return list
}

// changedHoods returns lists that differ from a neighbourhood by an offset that is missing, added or exchanged, or by their order.
func changedHoods(l []api.Point) [][]api.Point {
	others := append(offsets25(), api.Point{X: 3}, api.Point{Y: math.MinInt}, api.Point{X: math.MaxInt, Y: math.MaxInt})
	var list [][]api.Point
	for i, p := range l {
		list = append(list, slices.Delete(slices.Clone(l), i, i+1), slices.Insert(slices.Clone(l), i, p))
		for _, q := range others {
			exchanged := slices.Clone(l)
			exchanged[i] = q
			list = append(list, exchanged, slices.Insert(slices.Clone(l), i, q))
		}
		for k := range i {
			swapped := slices.Clone(l)
			swapped[i], swapped[k] = swapped[k], swapped[i]
			list = append(list, swapped)
		}
	}
	for _, q := range others {
		list = append(list, append(slices.Clone(l), q))
	}
	return append(list, slices.Repeat(l, 2))
}

// someRules returns rules of which most are not valid: by their states, their numbers or their neighbourhoods.
func someRules() []api.Totals {
	var list []api.Totals
	for _, letter := range usual {
		for _, s := range states {
			for _, l := range someNumbers() {
				list = append(list,
					api.Totals{Hood: usualHood(letter), States: s, Birth: l, Survive: []int{1, 3}},
					api.Totals{Hood: usualHood(letter), States: s, Survive: l},
					api.Totals{Hood: usualHood(letter), States: s, Birth: l, Survive: l})
			}
		}
	}
	for _, l := range wrongHoods() {
		for _, s := range []int{2, 3} {
			list = append(list, api.Totals{Hood: l, States: s}, api.Totals{Hood: l, States: s, Birth: []int{3}, Survive: []int{2, 3}})
		}
	}
	return append(list, api.Totals{})
}

// unchanged runs a call with a rule and reports whether it left its lists, and what lies behind them in memory, as they were.
func unchanged(t *testing.T, r api.Totals, call func(r api.Totals)) {
	t.Helper()
	laid := laidOut(r)
	before := filled(whole(laid))
	call(laid)
	if !equal(whole(laid), before) {
		t.Errorf("a call changed the rule %v", short(r))
	}
}

// laidOut returns a rule whose lists are new memory that goes on behind them.
func laidOut(r api.Totals) api.Totals {
	return api.Totals{
		Hood:    laid(r.Hood, api.Point{X: 77, Y: -77}),
		States:  r.States,
		Birth:   laid(r.Birth, 77),
		Survive: laid(r.Survive, -77),
	}
}

// laid returns a list in new memory that goes on behind it; a list that is nil remains so.
func laid[E any](l []E, behind E) []E {
	if l == nil {
		return nil
	}
	return append(slices.Clone(l), behind, behind)[:len(l)]
}

// whole returns a rule whose lists contain what lies behind them in memory.
func whole(r api.Totals) api.Totals {
	return api.Totals{Hood: r.Hood[:cap(r.Hood)], States: r.States, Birth: r.Birth[:cap(r.Birth)], Survive: r.Survive[:cap(r.Survive)]}
}

// parts is the number of the lists of a rule.
const parts = 3

// spoil changes one of the lists of a rule, and what lies behind it in memory.
func spoil(r api.Totals, part int) {
	r = whole(r)
	switch part {
	case 0:
		fill(r.Hood, api.Point{X: 9, Y: -9})
	case 1:
		fill(r.Birth, -9)
	case 2:
		fill(r.Survive, -9)
	}
}

// fill changes all elements of a list.
func fill[E any](l []E, e E) {
	for i := range l {
		l[i] = e
	}
}

// without returns a rule that lacks one of its lists.
func without(r api.Totals, part int) api.Totals {
	switch part {
	case 0:
		r.Hood = nil
	case 1:
		r.Birth = nil
	case 2:
		r.Survive = nil
	}
	return r
}

// short returns the beginnings of the lists of a rule, for messages.
func short(r api.Totals) api.Totals {
	r.Hood = r.Hood[:min(len(r.Hood), 30)]
	r.Birth = r.Birth[:min(len(r.Birth), 30)]
	r.Survive = r.Survive[:min(len(r.Survive), 30)]
	return r
}
