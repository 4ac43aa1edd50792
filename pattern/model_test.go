package pattern_test

import (
	"math"
	"math/rand"
	"slices"
	"testing"

	"cellular/api"
)

// The tests compare package pattern with a model that keeps states in a map by positions, numbers the valid positions from 0 on,
// and compares lists as sequences of ints.

const (
	most  = api.MaxCoord
	shift = 2 * api.MaxCoord
	full  = api.MaxCells
)

// coords are coordinates at the limits, around them, and at the limits of int.
var coords = []int{
	math.MinInt, math.MinInt + 1, -shift - 1, -most - 1, -most, -most + 1, -2, -1, 0, 1, 2, most - 1, most, most + 1, shift + 1,
	math.MaxInt - 1, math.MaxInt,
}

// states are those of cells that are valid, and others around them and at the limits of int.
var states = []int{math.MinInt, -7, -1, 0, 1, 2, 3, 4, 5, 6, 7, 8, 9, 16, math.MaxInt}

// shifts are displacements at the limits, around them, and at the limits of int.
var shifts = []int{
	math.MinInt, math.MinInt + 1, math.MinInt + most, math.MinInt32, -shift - 1, -shift, -shift + 1, -most - 1, -most, -most + 1, -1,
	0, 1, most - 1, most, most + 1, shift - 1, shift, shift + 1, math.MaxInt32, math.MaxInt - most, math.MaxInt - 1, math.MaxInt,
}

// isCoord reports whether a coordinate is one of a valid position.
func isCoord(n int) bool { return n >= -most && n <= most }

// number returns the number of a position in the order of all valid positions, and -1 if it is not one of them.
func number(x, y int) int {
	if !isCoord(x) || !isCoord(y) {
		return -1
	}
	return (y+most)*(2*most+1) + x + most
}

// isPattern reports whether a list is a valid pattern.
func isPattern(l []api.Cell) bool {
	last := -1
	for _, c := range l {
		n := number(c.X, c.Y)
		if n <= last || !slices.Contains([]int{1, 2, 3, 4, 5, 6, 7}, c.S) {
			return false
		}
		last = n
	}
	return len(l) <= 5000
}

// errorOf returns the error of the position and the state of a cell.
func errorOf(c api.Cell) api.Errno {
	if number(c.X, c.Y) < 0 {
		return api.ErrRange
	}
	if !slices.Contains([]int{0, 1, 2, 3, 4, 5, 6, 7}, c.S) {
		return api.ErrState
	}
	return api.OK
}

// stateMap is a pattern by its positions.
type stateMap map[api.Point]int

// mapOf returns the states of the cells of a valid pattern.
func mapOf(p api.Pattern) stateMap {
	m := stateMap{}
	for _, c := range p {
		m[api.Point{X: c.X, Y: c.Y}] = c.S
	}
	return m
}

// pattern returns the pattern of the states.
func (m stateMap) pattern() api.Pattern {
	var p api.Pattern
	for at, s := range m {
		p = append(p, api.Cell{X: at.X, Y: at.Y, S: s})
	}
	slices.SortFunc(p, func(a, b api.Cell) int { return number(a.X, a.Y) - number(b.X, b.Y) })
	return p
}

// fromModel returns what From has to return.
func fromModel(l []api.Cell) (api.Pattern, api.Errno) {
	for _, c := range l {
		if e := errorOf(c); e != api.OK {
			return nil, e
		}
	}
	m := stateMap{}
	for _, c := range l {
		at := api.Point{X: c.X, Y: c.Y}
		if c.S != 0 && m[at] != 0 {
			return nil, api.ErrTwice
		}
		if c.S != 0 {
			m[at] = c.S
		}
	}
	if len(m) > full {
		return nil, api.ErrSize
	}
	return m.pattern(), api.OK
}

// setModel returns what Set has to return.
func setModel(p api.Pattern, x, y, s int) (api.Pattern, api.Errno) {
	if !isPattern(p) {
		return nil, api.ErrArg
	}
	if e := errorOf(api.Cell{X: x, Y: y, S: s}); e != api.OK {
		return nil, e
	}
	m := mapOf(p)
	delete(m, api.Point{X: x, Y: y})
	if s != 0 {
		m[api.Point{X: x, Y: y}] = s
	}
	if len(m) > full {
		return nil, api.ErrSize
	}
	return m.pattern(), api.OK
}

// shiftModel returns what Shift has to return.
func shiftModel(p api.Pattern, dx, dy int) (api.Pattern, api.Errno) {
	if !isPattern(p) {
		return nil, api.ErrArg
	}
	for _, d := range []int{dx, dy} {
		if d < -shift || d > shift {
			return nil, api.ErrRange
		}
	}
	m := stateMap{}
	for at, s := range mapOf(p) {
		if number(at.X+dx, at.Y+dy) < 0 {
			return nil, api.ErrRange
		}
		m[api.Point{X: at.X + dx, Y: at.Y + dy}] = s
	}
	return m.pattern(), api.OK
}

// getModel returns what Get has to return: the states are read from the last one on, and the first one remains.
func getModel(l []api.Cell, x, y int) int {
	state := 0
	for _, c := range slices.Backward(l) {
		if x == c.X && y == c.Y {
			state = c.S
		}
	}
	return state
}

// boxModel returns what Box has to return.
func boxModel(l []api.Cell) (api.Box, bool) {
	if len(l) == 0 || !isPattern(l) {
		return api.Box{}, false
	}
	var xs, ys []int
	for _, c := range l {
		xs, ys = append(xs, c.X), append(ys, c.Y)
	}
	x, y := slices.Min(xs), slices.Min(ys)
	return api.Box{X: x, Y: y, W: slices.Max(xs) + 1 - x, H: slices.Max(ys) + 1 - y}, true
}

// topModel returns what Top has to return.
func topModel(l []api.Cell) int {
	found := []int{0}
	for _, c := range l {
		found = append(found, c.S)
	}
	return slices.Max(found)
}

// sequence returns the ints by which lists are compared.
func sequence(l []api.Cell) []int {
	var list []int
	for _, c := range l {
		list = append(list, c.Y, c.X, c.S)
	}
	return list
}

// row returns n cells in state 1 of a row from (x, y) on.
func row(x, y, n int) api.Pattern {
	var p api.Pattern
	for i := range n {
		p = append(p, api.Cell{X: x + i, Y: y, S: 1})
	}
	return p
}

// block returns the cells of a box with different states in order.
func block(x, y, w, h int) api.Pattern {
	var p api.Pattern
	for i := range w * h {
		p = append(p, api.Cell{X: x + i%w, Y: y + i/w, S: 1 + i%7})
	}
	return p
}

// cell returns a cell of which the values are among those of the lists above.
func cell(rng *rand.Rand) api.Cell {
	return api.Cell{X: coords[rng.Intn(len(coords))], Y: coords[rng.Intn(len(coords))], S: states[rng.Intn(len(states))]}
}

// nearCell returns a cell of a small square with a state from least on that is valid, or 0.
func nearCell(rng *rand.Rand, least int) api.Cell {
	return api.Cell{X: rng.Intn(7) - 3, Y: rng.Intn(5) - 2, S: least + rng.Intn(8-least)}
}

// nearPattern returns a pattern of at most n cells of a small square.
func nearPattern(rng *rand.Rand, n int) api.Pattern {
	var l []api.Cell
	for range rng.Intn(n + 1) {
		l = append(l, nearCell(rng, 1))
	}
	return mapOf(l).pattern()
}

// somePatterns are valid patterns: empty, at the limits of positions, states and cells, and others.
func somePatterns() []api.Pattern {
	return []api.Pattern{
		nil,
		{},
		{{S: 1}},
		{{S: 7}},
		{{X: -most, Y: -most, S: 1}},
		{{X: most, Y: most, S: 7}},
		{{X: most, Y: -most, S: 2}, {X: -most, Y: most, S: 3}},
		{{X: -most, Y: -most, S: 1}, {X: most, Y: -most, S: 2}, {X: -most, Y: most, S: 3}, {X: most, Y: most, S: 4}},
		{{X: 9, S: 1}, {X: -9, Y: 1, S: 1}},
		{{X: 4, Y: -1, S: 1}, {X: 2, Y: 3, S: 6}},
		block(-3, -2, 5, 4),
		row(-2500, 7, full),
		block(most-49, most-99, 50, 100),
	}
}

// wrongLists are lists that are not valid patterns.
func wrongLists() []api.Pattern {
	l := []api.Pattern{
		{{X: 1, S: 1}, {S: 1}},
		{{Y: 1, S: 1}, {S: 1}},
		{{X: -1, Y: 1, S: 1}, {X: 1, S: 1}},
		{{S: 1}, {S: 1}},
		{{S: 1}, {S: 2}},
		{{S: 2}, {S: 1}},
		{{S: 1}, {X: 1, S: 1}, {S: 1}},
		{{S: 1}, {X: 2, S: 1}, {X: 1, S: 1}},
		{{}},
		{{S: 1}, {X: 1}},
		{{S: -1}},
		{{S: 8}},
		{{S: 1}, {X: 1, S: 8}},
		{{S: math.MinInt}},
		{{S: math.MaxInt}},
		row(-2500, 7, full+1),
		block(0, 0, 50, 101),
	}
	for _, n := range []int{math.MinInt, -most - 1, most + 1, math.MaxInt} {
		l = append(l, api.Pattern{{X: n, S: 1}}, api.Pattern{{Y: n, S: 1}}, api.Pattern{{X: n, Y: n, S: 1}})
	}
	return append(l, api.Pattern{{Y: math.MinInt, S: 1}, {S: 1}}, api.Pattern{{S: 1}, {X: math.MaxInt, S: 1}})
}

// someLists returns lists of any kind: valid patterns, lists that are not valid, and random ones.
func someLists(rng *rand.Rand, n int) []api.Pattern {
	list := append(somePatterns(), wrongLists()...)
	for i := range n {
		var near, far api.Pattern
		for range rng.Intn(6) {
			near = append(near, nearCell(rng, i%2))
			far = append(far, cell(rng))
		}
		list = append(list, near, far, nearPattern(rng, 20))
	}
	return list
}

// unchanged runs a call with a list, which may be nil, and reports whether it left the list, and what lies behind it in memory, as
// they were.
func unchanged(t *testing.T, l []api.Cell, call func(l []api.Cell)) {
	t.Helper()
	if l == nil {
		call(nil)
		return
	}
	behind := api.Cell{X: 77, Y: -77, S: 77}
	memory := append(slices.Clone(l), behind, behind)
	before := slices.Clone(memory)
	call(memory[:len(l)])
	if !slices.Equal(memory, before) {
		t.Errorf("a call changed the list %v to %v", short(before), short(memory))
	}
}

// checkPattern compares the results of a call with those expected.
func checkPattern(t *testing.T, got api.Pattern, e api.Errno, want api.Pattern, wantError api.Errno) {
	t.Helper()
	if !slices.Equal(got, want) || e != wantError {
		t.Errorf("the result is %v, %d, not %v, %d", short(got), e, short(want), wantError)
	}
}

// short returns the beginning of a list, for a message.
func short(l []api.Cell) []api.Cell {
	return l[:min(len(l), 12)]
}
