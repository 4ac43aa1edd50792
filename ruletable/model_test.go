package ruletable_test

import (
	"fmt"
	"math"
	"math/rand"
	"regexp"
	"slices"
	"strconv"
	"strings"
	"testing"

	"cellular/api"
)

// The tests compare package ruletable with a model that draws neighbourhoods, gives every variable of a row each of its states in
// turn, and matches lines by regular expressions.

// ints are numbers at the limits of int, of states, of variables and of kinds of symmetries, and some that are small ones in 8 or 32
// bits.
var ints = []int{
	math.MinInt, math.MinInt + 1, math.MinInt + 2, -1<<32 - 1, -1 << 32, -257, -256, -42, -41, -40, -39, -9, -8, -4, -3, -2, -1, 0, 1, 2,
	3, 4, 5, 6, 7, 8, 9, 10, 25, 26, 40, 41, 255, 256, 257, 258, 1<<32 - 1, 1 << 32, 1<<32 + 1, 1<<32 + 2, math.MaxInt - 1, math.MaxInt,
}

// hoodWords and symWords are the names in texts.
var (
	hoodWords = []string{"moore", "neumann", "hex", "line"}
	symWords  = []string{"none", "rotate", "reflect", "permute"}
)

// named are the neighbourhoods with a name, as drawings.
var named = map[string]string{
	"moore":   "ooo ooo ooo",
	"neumann": ".o. ooo .o.",
	"hex":     "oo. ooo .oo",
	"line":    "... ooo ...",
}

// Drawings of neighbourhoods without a name.
const (
	single    = "o"
	beside    = "... ..o ..."
	pair      = "... o.o ..."
	column    = ".o. .o. .o."
	first     = "... .oo oo." // the centre is the first position
	last      = ".oo oo. ..." // the centre is the last one
	ring4     = ".o. o.o .o."
	ring8     = "ooo o.o ooo"
	corners   = "o.o .o. o.o"
	far       = "..o.. ..... o.o.o ..... ..o.."
	swirl     = ".o... ....o ..o.. o.... ...o."
	swirl4    = ".o... ....o ..... o.... ...o."
	diamond   = "..o.. .ooo. ooooo .ooo. ..o.."
	square    = "ooooo ooooo ooooo ooooo ooooo"
	nine      = "ooooo oooo. ..... ..... ....."
	nineRound = "ooooo ooo.. ..o.. ..... ....."
	ten       = "ooooo ooooo ..... ..... ....."
	tenRound  = "ooooo oooo. ..o.. ..... ....."
)

// permitted are the kinds of symmetries that neighbourhoods permit.
var permitted = []struct {
	drawing string
	syms    []int
}{
	{named["moore"], []int{0, 1, 2, 3}}, {named["neumann"], []int{0, 1, 2, 3}}, {named["hex"], []int{0, 3}}, {named["line"], []int{0, 3}},
	{single, []int{0, 1, 2, 3}}, {beside, []int{0, 3}}, {pair, []int{0, 3}}, {column, []int{0, 3}}, {first, []int{0, 3}},
	{last, []int{0, 3}}, {ring4, []int{0, 1, 2, 3}},
	{ring8, []int{0, 1, 2, 3}}, {corners, []int{0, 1, 2, 3}}, {far, []int{0, 1, 2, 3}}, {swirl, []int{0, 1, 3}}, {swirl4, []int{0, 1, 3}},
	{diamond, []int{0, 1, 2}}, {square, []int{0, 1, 2}}, {nine, []int{0, 3}}, {nineRound, []int{0, 3}}, {ten, []int{0}}, {tenRound, []int{0}},
}

// drawn returns the offsets of a drawing, in whose middle is the centre.
func drawn(drawing string) []api.Point {
	var l []api.Point
	rows := strings.Fields(drawing)
	for y, row := range rows {
		for x, c := range row {
			if c == 'o' {
				l = append(l, api.Point{X: x - len(rows)/2, Y: y - len(rows)/2})
			}
		}
	}
	return l
}

// isHood reports whether a list is a valid neighbourhood: not empty, and the same as all offsets that it contains, in order.
func isHood(l []api.Point) bool {
	had := slices.DeleteFunc(drawn(square), func(p api.Point) bool { return !slices.Contains(l, p) })
	return len(l) > 0 && slices.Equal(had, l)
}

// imageOf returns the image of an offset, turn by turn.
func imageOf(k int, p api.Point) api.Point {
	if k >= 4 {
		p.X = -p.X
	}
	for range k % 4 {
		p.X, p.Y = -p.Y, p.X
	}
	return p
}

// turnsOf returns the symmetries by which the rows of a table are turned.
func turnsOf(sym int) []int {
	return [][]int{{0}, {0, 1, 2, 3}, {0, 1, 2, 3, 4, 5, 6, 7}}[sym]
}

// permitsModel reports whether a valid neighbourhood permits a kind of symmetry.
func permitsModel(l []api.Point, sym int) bool {
	if sym == 3 {
		return len(l) < 10
	}
	for _, k := range turnsOf(sym) {
		for _, p := range l {
			if !slices.Contains(l, imageOf(k, p)) {
				return false
			}
		}
	}
	return true
}

// isSet reports whether a list is not empty and the same as all states that it contains, in order.
func isSet(l []int, states int) bool {
	var had []int
	for s := range states {
		if slices.Contains(l, s) {
			had = append(had, s)
		}
	}
	return len(l) > 0 && slices.Equal(had, l)
}

// rightModel reports whether a table is valid.
func rightModel(t api.Table) bool {
	if !slices.Contains([]int{2, 3, 4, 5, 6, 7, 8}, t.States) || !isHood(t.Hood) || len(t.Vars) > 40 || len(t.Rows) > 400 {
		return false
	}
	if !slices.Contains([]int{0, 1, 2, 3}, t.Sym) || !permitsModel(t.Hood, t.Sym) {
		return false
	}
	elements := map[int]bool{}
	for s := range t.States {
		elements[s] = true
	}
	for v, states := range t.Vars {
		elements[-1-v] = true
		if !isSet(states, t.States) {
			return false
		}
	}
	for _, row := range t.Rows {
		if len(row.Ins) != len(t.Hood) || slices.ContainsFunc(row.Ins, func(e int) bool { return !elements[e] }) {
			return false
		}
		if !elements[row.Out] || row.Out < 0 && !slices.Contains(row.Ins, row.Out) {
			return false
		}
	}
	return true
}

// turnedRow returns the states, or the elements, that a symmetry turns to others.
func turnedRow(l []api.Point, k int, row []int) []int {
	turned := make([]int, len(row))
	for i, p := range l {
		turned[slices.Index(l, imageOf(k, p))] = row[i]
	}
	return turned
}

// parted returns the state of the centre, or 0, and the other states, sorted.
func parted(l []api.Point, states []int) (int, []int) {
	centre, others := 0, []int{}
	for i, p := range l {
		if p == (api.Point{}) {
			centre = states[i]
		} else {
			others = append(others, states[i])
		}
	}
	slices.Sort(others)
	return centre, others
}

// covers reports whether states are among those that a row without variables stands for.
func covers(t api.Table, row, in []int) bool {
	if t.Sym == 3 {
		a, l := parted(t.Hood, row)
		b, m := parted(t.Hood, in)
		return a == b && slices.Equal(l, m)
	}
	return slices.ContainsFunc(turnsOf(t.Sym), func(k int) bool { return slices.Equal(turnedRow(t.Hood, k, row), in) })
}

// rowModel returns what Match has to return for a row of a valid table and states of it: it replaces the first variable in the row by
// each of its states, until there are no variables.
func rowModel(t api.Table, row api.Row, in []int) (int, bool) {
	i := slices.IndexFunc(row.Ins, func(e int) bool { return e < 0 })
	if i < 0 {
		if covers(t, row.Ins, in) {
			return row.Out, true
		}
		return 0, false
	}
	least, decides := 0, false
	for _, s := range t.Vars[-1-row.Ins[i]] {
		given := api.Row{Out: row.Out}
		if row.Out == row.Ins[i] {
			given.Out = s
		}
		for _, e := range row.Ins {
			if e == row.Ins[i] {
				e = s
			}
			given.Ins = append(given.Ins, e)
		}
		if state, is := rowModel(t, given, in); is && (!decides || state < least) {
			least, decides = state, true
		}
	}
	return least, decides
}

// areStates reports whether a list has states only.
func areStates(states int, l []int) bool {
	return !slices.ContainsFunc(l, func(s int) bool { return s < 0 || s > states-1 })
}

// matchModel returns what Match has to return.
func matchModel(t api.Table, row int, in []int) (int, bool) {
	if !rightModel(t) || row < 0 || row > len(t.Rows)-1 || len(in) != len(t.Hood) || !areStates(t.States, in) {
		return 0, false
	}
	return rowModel(t, t.Rows[row], in)
}

// nextModel returns what Next has to return.
func nextModel(t api.Table, in []int) (int, api.Errno) {
	switch {
	case !rightModel(t), len(in) != len(t.Hood):
		return 0, api.ErrArg
	case !areStates(t.States, in):
		return 0, api.ErrState
	}
	for _, row := range t.Rows {
		if state, decides := rowModel(t, row, in); decides {
			return state, api.OK
		}
	}
	for i, p := range t.Hood {
		if p == (api.Point{}) {
			return in[i], api.OK
		}
	}
	return 0, api.OK
}

// sameModel reports whether two tables are equal.
func sameModel(a, b api.Table) bool {
	return slices.Equal(numbers(a), numbers(b))
}

// numbers returns all numbers of a table, each list behind its length.
func numbers(t api.Table) []int {
	l := []int{t.States, t.Sym, len(t.Hood), len(t.Vars), len(t.Rows)}
	for _, p := range t.Hood {
		l = append(l, p.X, p.Y)
	}
	for _, states := range t.Vars {
		l = append(append(l, len(states)), states...)
	}
	for _, row := range t.Rows {
		l = append(append(l, row.Out, len(row.Ins)), row.Ins...)
	}
	return l
}

const (
	numberForm = `(?:0|[1-9][0-9]{0,8})`
	nameForm   = `[A-Za-z][A-Za-z0-9]{0,19}`
)

// The forms of lines, whose words have a single space between them.
var (
	wordForm   = regexp.MustCompile(`[^ \t]+`)
	statesForm = regexp.MustCompile(`^states (` + numberForm + `)$`)
	hoodForm   = regexp.MustCompile(`^hood ([^ ]+)$`)
	symForm    = regexp.MustCompile(`^symmetry ([^ ]+)$`)
	varForm    = regexp.MustCompile(`^var (` + nameForm + `)((?: ` + numberForm + `)+)$`)
	rowForm    = regexp.MustCompile(`^((?:[^ ]+ )*)-> ([^ ]+)$`)
	isNumber   = regexp.MustCompile(`^` + numberForm + `$`)
	isName     = regexp.MustCompile(`^` + nameForm + `$`)
)

// draft is what the model has read of a text.
type draft struct {
	lines int
	table api.Table
	vars  map[string]int
}

// parseModel returns what Parse has to return.
func parseModel(s string) (api.Table, int, api.Errno) {
	if len(s) > 65536 {
		return api.Table{}, 0, api.ErrSize
	}
	d := draft{vars: map[string]int{}}
	for i, line := range strings.Split(s, "\n") {
		text, _, _ := strings.Cut(line, "#")
		words := wordForm.FindAllString(text, -1)
		if len(words) == 0 {
			continue
		}
		d.lines++
		if e := d.line(strings.Join(words, " ")); e != api.OK {
			return api.Table{}, i + 1, e
		}
	}
	if d.lines < 3 {
		return api.Table{}, 0, api.ErrShort
	}
	return d.table, 0, api.OK
}

// line reads a line.
func (d *draft) line(s string) api.Errno {
	switch {
	case d.lines <= 3:
		return d.head(s)
	case s == "var" || strings.HasPrefix(s, "var "):
		return d.variable(s)
	}
	return d.row(s)
}

// head reads one of the first three lines.
func (d *draft) head(s string) api.Errno {
	found := []*regexp.Regexp{statesForm, hoodForm, symForm}[d.lines-1].FindStringSubmatch(s)
	if found == nil {
		return api.ErrSyntax
	}
	word, is := found[1], false
	switch d.lines {
	case 1:
		d.table.States = anyNumber(word)
		if !slices.Contains(strings.Fields("2 3 4 5 6 7 8"), word) {
			return api.ErrRange
		}
	case 2:
		d.table.Hood = drawn(named[word])
		if d.table.Hood == nil {
			return api.ErrName
		}
	case 3:
		d.table.Sym, is = map[string]int{"rotate": 1, "reflect": 2, "permute": 3}[word]
		if !is && word != "none" {
			return api.ErrName
		}
		if !permitsModel(d.table.Hood, d.table.Sym) {
			return api.ErrArg
		}
	}
	return api.OK
}

// variable reads the line of a variable.
func (d *draft) variable(s string) api.Errno {
	if d.table.Rows != nil {
		return api.ErrOrder
	}
	found := varForm.FindStringSubmatch(s)
	if found == nil || found[1] == "var" {
		return api.ErrSyntax
	}
	if _, has := d.vars[found[1]]; has {
		return api.ErrTwice
	}
	var states []int
	for _, word := range strings.Fields(found[2]) {
		states = append(states, anyNumber(word))
	}
	switch {
	case !areStates(d.table.States, states):
		return api.ErrRange
	case !isSet(states, d.table.States):
		return api.ErrOrder
	case len(d.vars) > 39:
		return api.ErrSize
	}
	d.vars[found[1]] = len(d.vars)
	d.table.Vars = append(d.table.Vars, states)
	return api.OK
}

// row reads the line of a row.
func (d *draft) row(s string) api.Errno {
	found := rowForm.FindStringSubmatch(s)
	if found == nil {
		return api.ErrSyntax
	}
	if strings.Count(found[1], " ") != len(d.table.Hood) {
		return api.ErrSyntax
	}
	words := strings.Split(strings.TrimSuffix(found[1], " "), " ")
	var values []int
	for _, word := range append(words, found[2]) {
		v, has := d.vars[word]
		switch number := isNumber.MatchString(word); {
		case number && anyNumber(word) >= d.table.States:
			return api.ErrRange
		case number:
			values = append(values, anyNumber(word))
		case !isName.MatchString(word), word == "var":
			return api.ErrSyntax
		case !has:
			return api.ErrName
		default:
			values = append(values, -1-v)
		}
	}
	row := api.Row{Ins: values[:len(words)], Out: values[len(words)]}
	if row.Out < 0 && !slices.Contains(row.Ins, row.Out) {
		return api.ErrArg
	}
	if len(d.table.Rows) > 399 {
		return api.ErrSize
	}
	d.table.Rows = append(d.table.Rows, row)
	return api.OK
}

// anyNumber returns the number that decimal digits stand for.
func anyNumber(digits string) int {
	n, _ := strconv.Atoi(digits)
	return n
}

// textModel returns what Text has to return.
func textModel(t api.Table) string {
	for _, word := range hoodWords {
		if !rightModel(t) || !slices.Equal(drawn(named[word]), t.Hood) {
			continue
		}
		s := fmt.Sprintf("states %d\nhood %s\nsymmetry %s\n", t.States, word, symWords[t.Sym])
		for v, states := range t.Vars {
			s += fmt.Sprintf("var v%d %s\n", v, strings.Trim(fmt.Sprint(states), "[]"))
		}
		for _, row := range t.Rows {
			for _, e := range row.Ins {
				s += wordOf(e) + " "
			}
			s += "-> " + wordOf(row.Out) + "\n"
		}
		return s
	}
	return ""
}

// wordOf returns the canonical word of an element.
func wordOf(e int) string {
	if e >= 0 {
		return fmt.Sprint(e)
	}
	return fmt.Sprintf("v%d", -e-1)
}

// lines returns a text of lines, each with its line feed.
func lines(l ...string) string {
	return strings.Join(l, "\n") + "\n"
}

// tableOf returns the table of a text, as the model reads it.
func tableOf(t *testing.T, l ...string) api.Table {
	t.Helper()
	own, line, e := parseModel(lines(l...))
	if e != api.OK {
		t.Fatalf("%q has the error %d in line %d", l, e, line)
	}
	return own
}

// row returns a row with elements and a new state.
func row(out int, ins ...int) api.Row {
	return api.Row{Ins: ins, Out: out}
}

// randomTable returns a valid table with random variables and rows.
func randomTable(rng *rand.Rand, drawing string, sym, states, vars, rows int) api.Table {
	t := api.Table{States: states, Sym: sym, Hood: drawn(drawing)}
	for range vars {
		t.Vars = append(t.Vars, randomSet(rng, states))
	}
	for range rows {
		var r api.Row
		// A row with few different elements matches more states.
		some := rng.Intn(3) + 1
		var own []int
		for range some {
			own = append(own, rng.Intn(states+vars)-vars)
		}
		for range t.Hood {
			r.Ins = append(r.Ins, own[rng.Intn(some)])
		}
		r.Out = rng.Intn(states)
		if rng.Intn(2) == 0 {
			r.Out = r.Ins[rng.Intn(len(r.Ins))]
		}
		t.Rows = append(t.Rows, r)
	}
	return t
}

// randomSet returns some states in ascending order.
func randomSet(rng *rand.Rand, states int) []int {
	set := rng.Perm(states)[:rng.Intn(states)+1]
	slices.Sort(set)
	return set
}

// randomStates returns random states, often few different ones.
func randomStates(rng *rand.Rand, states, n int) []int {
	some := rng.Perm(states)[:rng.Intn(states)+1]
	l := make([]int, n)
	for i := range l {
		l[i] = some[rng.Intn(len(some))]
	}
	return l
}

// everyState returns all lists of n states.
func everyState(states, n int) [][]int {
	all := [][]int{{}}
	for range n {
		var longer [][]int
		for _, l := range all {
			for s := range states {
				longer = append(longer, append(slices.Clone(l), s))
			}
		}
		all = longer
	}
	return all
}

// laid returns a list in new memory, in which two elements follow it; a list that is nil remains so.
func laid[E any](l []E, behind E) []E {
	if l == nil {
		return nil
	}
	longer := append(slices.Clone(l), behind, behind)
	return longer[: len(l) : len(l)+2]
}

// laidOut returns a table whose lists, at each depth, are new memory that goes on behind them.
func laidOut(t api.Table) api.Table {
	t.Hood = laid(t.Hood, api.Point{X: 77, Y: -77})
	t.Vars = laid(t.Vars, []int{77})
	for v := range t.Vars {
		t.Vars[v] = laid(t.Vars[v], 77)
	}
	t.Rows = laid(t.Rows, row(77, -77))
	for i := range t.Rows {
		t.Rows[i].Ins = laid(t.Rows[i].Ins, -77)
	}
	return t
}

// whole returns a table whose lists, at each depth, contain what lies behind them in memory.
func whole(t api.Table) api.Table {
	t.Hood = t.Hood[:cap(t.Hood)]
	t.Vars = slices.Clone(t.Vars[:cap(t.Vars)])
	for v := range t.Vars {
		t.Vars[v] = t.Vars[v][:cap(t.Vars[v])]
	}
	t.Rows = slices.Clone(t.Rows[:cap(t.Rows)])
	for i := range t.Rows {
		t.Rows[i].Ins = t.Rows[i].Ins[:cap(t.Rows[i].Ins)]
	}
	return t
}

// unchanged runs a call with a table and a list, and checks that it left both, and what lies behind them in memory, as they were.
func unchanged(t *testing.T, own api.Table, in []int, call func(own api.Table, in []int)) {
	t.Helper()
	given, list := laidOut(own), laid(in, 77)
	call(given, list)
	want, wanted := laidOut(own), laid(in, 77)
	if !slices.Equal(numbers(whole(given)), numbers(whole(want))) || !slices.Equal(numbers(given), numbers(own)) {
		t.Errorf("a call changed the table %s", show(own))
	}
	if !slices.Equal(list[:cap(list)], wanted[:cap(wanted)]) {
		t.Errorf("a call changed the states %v", in)
	}
}

// isZero reports whether a table is the zero value.
func isZero(t api.Table) bool {
	return sameModel(t, api.Table{})
}

// show returns the beginning of what a table contains, for messages.
func show(t api.Table) string {
	t.Hood = t.Hood[:min(len(t.Hood), 30)]
	t.Vars = t.Vars[:min(len(t.Vars), 10)]
	t.Rows = t.Rows[:min(len(t.Rows), 10)]
	return begin(fmt.Sprintf("%+v", t))
}

// begin returns the beginning of a text, for messages.
func begin(s string) string {
	return s[:min(len(s), 600)]
}
