package algebra_test

import (
	"maps"
	"math"
	"math/rand"
	"slices"
	"testing"

	"cellular/api"
)

// The tests compare package algebra with a model that keeps the states of a pattern in a map by positions, goes through all copies
// of a pattern one by one, and makes one quarter turn after the other.

const (
	most = api.MaxCoord
	full = api.MaxCells
)

// states are the states of a pattern by positions.
type states map[api.Point]int

// place returns the position of a cell.
func place(c api.Cell) api.Point { return api.Point{X: c.X, Y: c.Y} }

// statesOf returns the states of a list, whose positions are different.
func statesOf(p api.Pattern) states {
	m := states{}
	for _, c := range p {
		m[place(c)] = c.S
	}
	return m
}

// pattern returns the cells in order.
func (m states) pattern() api.Pattern {
	var p api.Pattern
	for at, s := range m {
		p = append(p, api.Cell{X: at.X, Y: at.Y, S: s})
	}
	slices.SortFunc(p, func(c, d api.Cell) int { return number(place(c)) - number(place(d)) })
	return p
}

// isPlace reports whether a position is valid.
func isPlace(at api.Point) bool {
	return at.X >= -most && at.X <= most && at.Y >= -most && at.Y <= most
}

// number returns the number of a position in their order, among all those to which a valid one can be moved home.
func number(at api.Point) int { return 4*most*at.Y + at.X }

// isPattern reports whether a list is a valid pattern.
func isPattern(p api.Pattern) bool {
	for i, c := range p {
		if !isPlace(place(c)) || c.S < 1 || c.S > 7 || i > 0 && number(place(c)) <= number(place(p[i-1])) {
			return false
		}
	}
	return len(p) <= full
}

// overModel returns what Over has to return.
func overModel(a, b api.Pattern) (api.Pattern, api.Errno) {
	if !isPattern(a) || !isPattern(b) {
		return nil, api.ErrArg
	}
	m := statesOf(b)
	maps.Copy(m, statesOf(a))
	return limited(m)
}

// xorModel returns what Xor has to return.
func xorModel(a, b api.Pattern) (api.Pattern, api.Errno) {
	if !isPattern(a) || !isPattern(b) {
		return nil, api.ErrArg
	}
	m := statesOf(a)
	for at, s := range statesOf(b) {
		if m[at] != 0 {
			delete(m, at)
		} else {
			m[at] = s
		}
	}
	return limited(m)
}

// limited returns the pattern of the states, unless they are too many.
func limited(m states) (api.Pattern, api.Errno) {
	if len(m) > full {
		return nil, api.ErrSize
	}
	return m.pattern(), api.OK
}

// selected returns the cells of a at the positions that b has, or does not have; nothing if a list is not valid.
func selected(a, b api.Pattern, had bool) api.Pattern {
	if !isPattern(a) || !isPattern(b) {
		return nil
	}
	m := statesOf(b)
	return slices.DeleteFunc(slices.Clone(a), func(c api.Cell) bool { return (m[place(c)] != 0) != had })
}

// isBox reports whether a box is valid.
func isBox(b api.Box) bool {
	side := func(from, n int) bool {
		return n > 0 && n <= 2*most+1 && from >= -most && from <= most && from+n-1 <= most
	}
	return side(b.X, b.W) && side(b.Y, b.H)
}

// cutModel returns what Cut has to return.
func cutModel(p api.Pattern, b api.Box) api.Pattern {
	if !isPattern(p) || !isBox(b) {
		return nil
	}
	end := api.Point{X: b.X + b.W - 1, Y: b.Y + b.H - 1}
	return slices.DeleteFunc(slices.Clone(p), func(c api.Cell) bool {
		return c.X < b.X || c.X > end.X || c.Y < b.Y || c.Y > end.Y
	})
}

// turnModel returns what Turn has to return.
func turnModel(k int, p api.Pattern) (api.Pattern, api.Errno) {
	if !isPattern(p) {
		return nil, api.ErrArg
	}
	k = (k%8 + 8) % 8
	m := states{}
	for at, s := range statesOf(p) {
		if k >= 4 {
			at.X = -at.X
		}
		for range k % 4 {
			at.X, at.Y = -at.Y, at.X
		}
		m[at] = s
	}
	return m.pattern(), api.OK
}

// homeModel returns what Home has to return.
func homeModel(p api.Pattern) api.Pattern {
	if len(p) == 0 || !isPattern(p) {
		return p
	}
	var xs, ys []int
	for _, c := range p {
		xs, ys = append(xs, c.X), append(ys, c.Y)
	}
	x, y := slices.Min(xs), slices.Min(ys)
	m := states{}
	for at, s := range statesOf(p) {
		m[api.Point{X: at.X - x, Y: at.Y - y}] = s
	}
	return m.pattern()
}

// tiling is the displacements and the numbers of copies of a call of Tile.
type tiling struct{ dx, dy, nx, ny int }

// right reports whether the numbers of a tiling are in their ranges.
func (l tiling) right() bool {
	return isPlace(api.Point{X: l.dx, Y: l.dy}) && l.nx >= 0 && l.nx <= 50 && l.ny >= 0 && l.ny <= 50
}

// tileModel returns what Tile has to return.
func tileModel(p api.Pattern, l tiling) (api.Pattern, api.Errno) {
	if !isPattern(p) || !l.right() {
		return nil, api.ErrArg
	}
	m := states{}
	for n := range l.nx * l.ny {
		i, j := n%l.nx, n/l.nx
		for _, c := range p {
			at := api.Point{X: c.X + i*l.dx, Y: c.Y + j*l.dy}
			if !isPlace(at) {
				return nil, api.ErrRange
			}
			if m[at] == 0 {
				m[at] = c.S
			}
		}
	}
	return limited(m)
}

// row returns n cells of a row from (x, y) on in a state.
func row(x, y, n, s int) api.Pattern {
	var p api.Pattern
	for i := range n {
		p = append(p, api.Cell{X: x + i, Y: y, S: s})
	}
	return p
}

// block returns the cells of a box with different states in order.
func block(x, y, w, h int) api.Pattern {
	var p api.Pattern
	for i := range w * h {
		p = append(p, api.Cell{X: x + i%w, Y: y + i/w, S: 1 + i%7})
	}
	return p
}

// near returns a pattern of at most n cells around the origin.
func near(rng *rand.Rand, n int) api.Pattern {
	m := states{}
	for range rng.Intn(n + 1) {
		m[api.Point{X: rng.Intn(7) - 3, Y: rng.Intn(5) - 2}] = 1 + rng.Intn(7)
	}
	return m.pattern()
}

// anywhere returns a pattern of at most n cells at any valid positions.
func anywhere(rng *rand.Rand, n int) api.Pattern {
	m := states{}
	for range rng.Intn(n + 1) {
		m[api.Point{X: rng.Intn(2*most+1) - most, Y: rng.Intn(2*most+1) - most}] = 1 + rng.Intn(7)
	}
	return m.pattern()
}

// corners has a cell in each corner of the valid positions.
var corners = api.Pattern{{X: -most, Y: -most, S: 1}, {X: most, Y: -most, S: 2}, {X: -most, Y: most, S: 3}, {X: most, Y: most, S: 4}}

// somePatterns are valid patterns: empty, at the limits of positions, states and cells, and others.
func somePatterns() []api.Pattern {
	return []api.Pattern{
		nil,
		{},
		{{S: 1}},
		{{S: 7}},
		{{X: -most, Y: -most, S: 1}},
		{{X: most, Y: most, S: 7}},
		corners,
		corners[:2],
		{corners[0], corners[2]},
		{{X: 9, S: 1}, {X: -9, Y: 1, S: 1}},
		{{X: -3, S: 2}, {X: 4, S: 5}, {X: -1, Y: 1, S: 3}},
		block(-3, -2, 5, 4),
		block(-1, 0, 2, 7),
		row(-2500, 7, full, 3),
		row(-2500, 7, full-1, 4),
		block(most-49, -most, 50, 100),
	}
}

// wrongLists are lists that are not valid patterns: by their order, a state, the number of cells or a position.
func wrongLists() []api.Pattern {
	l := []api.Pattern{
		{{X: 1, S: 1}, {S: 1}},
		{{Y: 1, S: 1}, {X: 1, S: 1}},
		{{S: 1}, {S: 1}},
		{{S: 1}, {S: 2}},
		{{S: 1}, {X: 2, S: 1}, {X: 1, S: 1}},
		{{}},
		{{S: 1}, {X: 1}},
		{{S: 1}, {X: 1, S: 8}},
		{{S: -1}},
		{{S: math.MinInt}},
		{{S: math.MaxInt}},
		row(0, 0, full+1, 1),
		append(row(0, 0, full, 1), api.Cell{S: 1}),
	}
	for _, n := range []int{math.MinInt, -most - 1, most + 1, math.MaxInt} {
		l = append(l, api.Pattern{{X: n, S: 1}}, api.Pattern{{Y: n, S: 1}}, api.Pattern{{X: n, Y: n, S: 1}})
	}
	return append(l, api.Pattern{{Y: math.MinInt, S: 1}, {S: 1}}, api.Pattern{{S: 1}, {X: math.MaxInt, S: 1}})
}

// result is what a call returns, where a call without an error code has the code OK.
type result struct {
	p api.Pattern
	e api.Errno
}

// checkCall compares the result of a call, which has a name for messages and is given lists, with what is expected. It examines
// whether the call left these lists, and what lies behind them in memory, as they were, and whether they stay so when the pattern
// that it returned is overwritten.
func checkCall(t *testing.T, name string, want result, call func(l []api.Pattern) result, lists ...api.Pattern) {
	t.Helper()
	junk := api.Cell{X: 77, Y: -77, S: 77}
	var given, memories, before []api.Pattern
	for _, l := range lists {
		memory := append(slices.Clone(l), junk, junk)
		memories, before = append(memories, memory), append(before, slices.Clone(memory))
		if l != nil {
			l = memory[:len(l)]
		}
		given = append(given, l)
	}
	got := call(given)
	if !slices.Equal(got.p, want.p) || got.e != want.e {
		t.Errorf("%s of %v is %v, %d, not %v, %d", name, short(lists...), short(got.p), got.e, short(want.p), want.e)
	}
	for i := range got.p {
		got.p[i] = api.Cell{X: 88, Y: 88, S: 88}
	}
	_ = append(got.p, api.Cell{X: 99, Y: 99, S: 99})
	for i, memory := range memories {
		if !slices.Equal(memory, before[i]) {
			t.Errorf("%s changed the list %v to %v", name, short(before[i]), short(memory))
		}
	}
}

// short returns the beginnings of lists, for a message.
func short(l ...api.Pattern) []api.Pattern {
	var list []api.Pattern
	for _, p := range l {
		list = append(list, p[:min(len(p), 12)])
	}
	return list
}
