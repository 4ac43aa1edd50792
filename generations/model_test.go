package generations_test

import (
	"iter"
	"math"
	"regexp"
	"slices"
	"strconv"
	"strings"
	"testing"

	"cellular/api"
)

// The tests compare package generations with a model in which neighbourhoods are drawn, both forms of notations are matched by
// regular expressions, and new states are determined state by state.

const (
	ascending = `(0?1?2?3?4?5?6?7?8?9?)`
	ending    = `([1-9][0-9]{0,2})([VH]?)$`
)

// markedForm and bareForm are the two forms of notations.
var (
	markedForm = regexp.MustCompile(`^B` + ascending + `/S` + ascending + `/C` + ending)
	bareForm   = regexp.MustCompile(`^` + ascending + `/` + ascending + `/` + ending)
)

// usual are the letters that stand for the neighbourhoods.
var usual = []string{"", "V", "H"}

// drawings are the neighbourhoods, by their letters.
var drawings = map[string][]api.Point{"": drawn("ooo ooo ooo"), "V": drawn(".o. ooo .o."), "H": drawn("oo. ooo .oo")}

// drawn returns the offsets of a drawing.
func drawn(drawing string) []api.Point {
	var l []api.Point
	for y, row := range strings.Fields(drawing) {
		for x, c := range row {
			if c == 'o' {
				l = append(l, api.Point{X: x - 1, Y: y - 1})
			}
		}
	}
	return l
}

// offsets returns the neighbourhood for which a letter stands.
func offsets(letter string) []api.Point {
	return slices.Clone(drawings[letter])
}

// numbers returns the numbers that single digits stand for.
func numbers(digits string) []int {
	var l []int
	for _, d := range digits {
		l = append(l, int(d-'0'))
	}
	return l
}

// ruleOf returns the rule with the neighbourhood of a letter, and the numbers that digits stand for.
func ruleOf(letter, birth, survive string, states int) api.Totals {
	return api.Totals{Hood: offsets(letter), States: states, Birth: numbers(birth), Survive: numbers(survive)}
}

// marked returns a notation of the form with letters.
func marked(birth, survive, number, letter string) string {
	return "B" + birth + "/S" + survive + "/C" + number + letter
}

// bare returns a notation of the form without letters.
func bare(birth, survive, number, letter string) string {
	return survive + "/" + birth + "/" + number + letter
}

// forms are the functions that return notations, one for each form.
var forms = []func(birth, survive, number, letter string) string{marked, bare}

// subsets returns all strictly ascending lists of digits below n.
func subsets(n int) []string {
	all := []string{""}
	for d := range n {
		for _, s := range slices.Clone(all) {
			all = append(all, s+strconv.Itoa(d))
		}
	}
	return all
}

// everyList produces the digits of Birth and of Survive of all rules with the neighbourhood of a letter.
func everyList(letter string) iter.Seq2[string, string] {
	return func(yield func(birth, survive string) bool) {
		all := subsets(len(offsets(letter)))
		for _, birth := range all {
			for _, survive := range all {
				if !yield(birth, survive) {
					return
				}
			}
		}
	}
}

// letterModel returns the letter that stands for a neighbourhood, and whether there is one.
func letterModel(l []api.Point) (string, bool) {
	i := slices.IndexFunc(usual, func(letter string) bool { return slices.Equal(drawings[letter], l) })
	if i < 0 {
		return "", false
	}
	return usual[i], true
}

// isList reports whether a list is the one of all numbers below a limit that it contains.
func isList(l []int, limit int) bool {
	var had []int
	for n := range limit {
		if slices.Contains(l, n) {
			had = append(had, n)
		}
	}
	return slices.Equal(had, l)
}

// rightModel reports whether a rule by counts is valid.
func rightModel(t api.Totals) bool {
	_, is := letterModel(t.Hood)
	return is && t.States >= 2 && t.States <= 8 && isList(t.Birth, len(t.Hood)) && isList(t.Survive, len(t.Hood))
}

// parseModel returns what Parse has to return.
func parseModel(s string) (api.Totals, api.Errno) {
	var birth, survive, number, letter string
	if found := markedForm.FindStringSubmatch(s); found != nil {
		birth, survive, number, letter = found[1], found[2], found[3], found[4]
	} else if found := bareForm.FindStringSubmatch(s); found != nil {
		survive, birth, number, letter = found[1], found[2], found[3], found[4]
	} else {
		return api.Totals{}, api.ErrSyntax
	}
	greatest := map[string]rune{"": '8', "V": '4', "H": '6'}[letter]
	tooGreat := func(d rune) bool { return d > greatest }
	if len(number) > 1 || number < "3" || number > "8" || strings.ContainsFunc(birth+survive, tooGreat) {
		return api.Totals{}, api.ErrRange
	}
	return ruleOf(letter, birth, survive, numbers(number)[0]), api.OK
}

// textModel returns what Text has to return.
func textModel(t api.Totals) string {
	if !rightModel(t) || t.States == 2 {
		return ""
	}
	letter, _ := letterModel(t.Hood)
	return marked(digits(t.Birth), digits(t.Survive), digits([]int{t.States}), letter)
}

// digits returns the digits of numbers from 0 to 9.
func digits(l []int) string {
	s := make([]byte, 0, len(l))
	for _, n := range l {
		s = append(s, "0123456789"[n])
	}
	return string(s)
}

// nextModel returns what Next has to return.
func nextModel(t api.Totals, state, count int) int {
	if !rightModel(t) || state < 0 || state > t.States-1 || count < 0 || count > len(t.Hood)-1 {
		return 0
	}
	last := state == t.States-1
	switch {
	case state == 0 && slices.Contains(t.Birth, count):
		return 1
	case state == 0:
		return 0
	case state == 1 && slices.Contains(t.Survive, count):
		return 1
	case last:
		return 0
	}
	return state + 1
}

// plainModel returns what Plain has to return.
func plainModel(t api.Totals) api.Totals {
	if !rightModel(t) {
		return api.Totals{}
	}
	t.States = 2
	return t
}

// equal reports whether two rules have equal contents; empty lists may be nil.
func equal(a, b api.Totals) bool {
	return slices.Equal(a.Hood, b.Hood) && a.States == b.States && slices.Equal(a.Birth, b.Birth) && slices.Equal(a.Survive, b.Survive)
}

// isZero reports whether a rule is the zero value.
func isZero(t api.Totals) bool {
	return equal(t, api.Totals{})
}

// ints are numbers at the limits of int, of states and of numbers of neighbours, and some that are small ones in 8 or 32 bits.
var ints = []int{
	math.MinInt, math.MinInt + 1, -1 << 32, -256, -8, -2, -1, 0, 1, 2, 3, 4, 5, 6, 7, 8, 9, 10, 25, 255, 256, 257, 258, 259,
	1<<32 - 1, 1 << 32, 1<<32 + 1, 1<<32 + 2, 1<<32 + 3, math.MaxInt - 1, math.MaxInt,
}

// around returns numbers of which those from 0 to n - 1 are in range, and many that are not.
func around(n int) []int {
	list := []int{math.MinInt, -1 << 32, -256, -n, -1}
	for i := range n + 2 {
		list = append(list, i)
	}
	return append(list, 256, 1<<32, 1<<32+1, math.MaxInt)
}

// someLists returns lists of numbers of neighbours: nil, empty and full ones, and many that no rule or only some rules may have.
func someLists() [][]int {
	list := [][]int{
		nil, {}, {2, 3}, {0, 2, 4}, {3, 2}, {0, 2, 1}, {2, 0, 1}, {0, 0}, {4, 4}, {0, 1, 1}, {0, 0, 1}, {0, -1}, {-1, 0}, {-2, -1},
		{0, math.MaxInt}, {math.MaxInt, 0}, {math.MinInt, 0}, {0, math.MinInt}, {0, math.MaxInt, 1}, {math.MinInt, math.MaxInt},
		make([]int, 10000),
	}
	for _, n := range ints {
		list = append(list, []int{n})
	}
	for _, n := range []int{5, 7, 9} {
		full := numbers("0123456789"[:n])
		down := slices.Clone(full)
		slices.Reverse(down)
		list = append(list, full, down, append([]int{-1}, full...), append(slices.Clone(full), n), append(slices.Clone(full), n-1))
	}
	return list
}

// someHoods returns the usual neighbourhoods and lists that are none of them, some of which are valid neighbourhoods.
func someHoods() [][]api.Point {
	list := [][]api.Point{nil, {}, {{}}, {{X: -1}, {}, {X: 1}}, make([]api.Point, 9), make([]api.Point, 10000)}
	for _, letter := range usual {
		l := offsets(letter)
		list = append(list, l, slices.Repeat(l, 2), append(slices.Clone(l), api.Point{X: 2, Y: 2}), slices.Insert(slices.Clone(l), 0, api.Point{Y: -2}))
		down := slices.Clone(l)
		slices.Reverse(down)
		list = append(list, down)
		for i := range l {
			list = append(list, slices.Delete(slices.Clone(l), i, i+1))
			for _, p := range []api.Point{{}, {X: 2}, {X: math.MinInt, Y: math.MaxInt}} {
				changed := slices.Clone(l)
				changed[i] = p
				list = append(list, changed)
			}
		}
	}
	return list
}

// someRules returns rules of which many are not valid: by their neighbourhoods, their states, or one or both lists of numbers.
func someRules() []api.Totals {
	var list []api.Totals
	for _, l := range someHoods() {
		for _, s := range ints {
			list = append(list, api.Totals{Hood: l, States: s}, api.Totals{Hood: l, States: s, Birth: []int{2}, Survive: []int{3, 4}})
		}
	}
	for _, letter := range usual {
		for _, s := range []int{1, 2, 3, 5, 8, 9} {
			for _, l := range someLists() {
				list = append(list,
					api.Totals{Hood: offsets(letter), States: s, Birth: l, Survive: []int{1, 3}},
					api.Totals{Hood: offsets(letter), States: s, Birth: []int{1, 3}, Survive: l},
					api.Totals{Hood: offsets(letter), States: s, Birth: l, Survive: l})
			}
		}
	}
	return append(list, api.Totals{})
}

// validRules returns valid rules, with all numbers of states from 2 on.
func validRules() []api.Totals {
	var list []api.Totals
	for _, letter := range usual {
		full := "0123456789"[:len(offsets(letter))]
		some := []string{"", full, full[1:], full[:len(full)-1], "0", full[len(full)-1:], "2", "13", "024"}
		for states := 2; states <= api.MaxStates; states++ {
			for _, birth := range some {
				for _, survive := range some {
					list = append(list, ruleOf(letter, birth, survive, states))
				}
			}
		}
	}
	return list
}

// unchanged runs a call with a rule and reports whether it left its lists, and what lies behind them in memory, as they were.
func unchanged(t *testing.T, r api.Totals, call func(r api.Totals)) {
	t.Helper()
	given := laidOut(r)
	call(given)
	if want := laidOut(r); !equal(whole(given), whole(want)) || !equal(given, r) {
		t.Errorf("a call changed the rule %v", short(r))
	}
}

// laidOut returns a rule whose lists are new memory that goes on behind them.
func laidOut(r api.Totals) api.Totals {
	return api.Totals{
		Hood:    laid(r.Hood, api.Point{X: 77, Y: -77}),
		States:  r.States,
		Birth:   laid(r.Birth, 77),
		Survive: laid(r.Survive, -77),
	}
}

// laid returns a list in new memory, in which two elements follow it; a list that is nil remains so.
func laid[E any](l []E, behind E) []E {
	if l == nil {
		return nil
	}
	longer := append(slices.Clone(l), behind, behind)
	return longer[: len(l) : len(l)+2]
}

// whole returns a rule whose lists contain what lies behind them in memory.
func whole(r api.Totals) api.Totals {
	return api.Totals{Hood: r.Hood[:cap(r.Hood)], States: r.States, Birth: r.Birth[:cap(r.Birth)], Survive: r.Survive[:cap(r.Survive)]}
}

// parts is the number of the lists of a rule.
const parts = 3

// spoil changes one of the lists of a rule, and what lies behind it in memory, and returns the rule without this list.
func spoil(r api.Totals, part int) api.Totals {
	all := whole(r)
	switch part {
	case 0:
		fill(all.Hood, api.Point{X: 9, Y: -9})
		r.Hood = nil
	case 1:
		fill(all.Birth, -9)
		r.Birth = nil
	case 2:
		fill(all.Survive, -9)
		r.Survive = nil
	}
	return r
}

// fill changes all elements of a list.
func fill[E any](l []E, e E) {
	for i := range l {
		l[i] = e
	}
}

// short returns the beginnings of the lists of a rule, for messages.
func short(r api.Totals) api.Totals {
	r.Hood = r.Hood[:min(len(r.Hood), 30)]
	r.Birth = r.Birth[:min(len(r.Birth), 30)]
	r.Survive = r.Survive[:min(len(r.Survive), 30)]
	return r
}
