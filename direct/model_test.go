package direct_test

import (
	"fmt"
	"math"
	"math/rand"
	"slices"
	"strings"
	"testing"

	"cellular/api"
	"cellular/direct"
	"cellular/hood"
	"cellular/pattern"
	"cellular/tree"
)

// The tests compare package direct with a model that keeps the states of a pattern in a map, and that finds the new state of each cell near a
// cell of the pattern by a function of the states of its neighbourhood, not by the tree that is made for this function.

const (
	most = api.MaxCoord
	full = api.MaxCells
)

// ints are numbers at the limits of int, of coordinates and of generations, and some that are small ones in 8 or 32 bits.
var ints = []int{
	math.MinInt, math.MinInt + 1, math.MinInt + 2, -1<<32 - 1, -1 << 32, -1<<32 + 1, -most - 3, -most - 2, -most - 1, -most, -most + 1, -10001,
	-10000, -256, -3, -2, -1, 0, 1, 2, 3, 256, 9999, 10000, 10001, most - 1, most, most + 1, most + 2, most + 3, 1<<32 - 1, 1 << 32, 1<<32 + 1,
	math.MaxInt - 2, math.MaxInt - 1, math.MaxInt,
}

// Drawings of neighbourhoods that are not those of package hood.
const (
	beside  = "... ..o ..."
	left    = "... oo. ..."
	corner  = "... .oo .o."
	line    = "... ooo ..."
	ring    = "ooo o.o ooo"
	apart   = "..... ..... o...o ..... ...o."
	far     = "o...o ..... ..... ..... o...."
	last    = "..... ..... ..... ..... ....o"
	row     = "..... ..... ooooo ..... ....."
	column  = "..o.. ..o.. ..o.. ..o.. ..o.."
	knight  = ".o.o. o...o ..... o...o .o.o."
	frame   = "ooooo o...o o...o o...o ooooo"
	uneven  = "o.oo. .o... ..o.o o.... .oo.."
	hollow  = "ooooo ooooo oo.oo ooooo ooooo"
	below   = "..... ..... ...oo ooooo ooooo"
	unequal = "o.... ..... ..... ..... ....o"
)

// drawn returns the offsets of a drawing, in whose middle is the centre.
func drawn(drawing string) []api.Point {
	var l []api.Point
	rows := strings.Fields(drawing)
	for y, cells := range rows {
		for x, c := range cells {
			if c == 'o' {
				l = append(l, api.Point{X: x - len(rows)/2, Y: y - len(rows)/2})
			}
		}
	}
	return l
}

// allHoods returns the neighbourhoods of package hood and many others.
func allHoods() [][]api.Point {
	l := [][]api.Point{hood.Moore(0), hood.Moore(1), hood.Moore(2), hood.Neumann(1), hood.Neumann(2), hood.Hex()}
	for _, s := range []string{
		beside, left, corner, line, ring, apart, far, last, row, column, knight, frame, uneven, hollow, below, unequal,
	} {
		l = append(l, drawn(s))
	}
	return l
}

// rule is a rule tree with the function that it stands for.
type rule struct {
	api.Tree
	value func(in []int) int
}

// machine reads one state after the other and remembers a number. At the end this number leads to the new state.
type machine struct {
	begin int
	read  func(memory, position, state int) int
	end   func(memory int) int
}

// node returns a node with a level and elements.
func node(level int, next ...int) api.Node {
	return api.Node{Level: level, Next: next}
}

// rule returns the rule of a machine. Its tree has a node for each number that the machine may remember before it reads a position.
func (m machine) rule(states int, l []api.Point) rule {
	t := api.Tree{States: states, Hood: slices.Clone(l)}
	numbers := map[[2]int]int{}
	var visit func(memory, position int) int
	visit = func(memory, position int) int {
		if position == len(l) {
			return m.end(memory)
		}
		at := [2]int{memory, position}
		if _, is := numbers[at]; !is {
			own := node(len(l) - position)
			for s := range states {
				own.Next = append(own.Next, visit(m.read(memory, position, s), position+1))
			}
			numbers[at] = len(t.Nodes)
			t.Nodes = append(t.Nodes, own)
		}
		return numbers[at]
	}
	visit(m.begin, 0)
	return rule{t, func(in []int) int {
		memory := m.begin
		for position, state := range in {
			memory = m.read(memory, position, state)
		}
		return m.end(memory)
	}}
}

// same returns a number itself.
func same(n int) int {
	return n
}

// reading is the rule that leads to the state of a position.
func reading(states int, l []api.Point, k int) rule {
	return machine{0, func(memory, position, state int) int {
		if position == k {
			return state
		}
		return memory
	}, same}.rule(states, l)
}

// copying is the rule that leads to the state at an offset, which is the only one of the neighbourhood.
func copying(states, dx, dy int) rule {
	return reading(states, []api.Point{{X: dx, Y: dy}}, 0)
}

// greatest is the rule that leads to the greatest state.
func greatest(states int, l []api.Point) rule {
	return machine{0, func(memory, position, state int) int { return max(memory, state) }, same}.rule(states, l)
}

// summing is the rule that leads to the sum of all states, modulo their number.
func summing(states int, l []api.Point) rule {
	return machine{0, func(memory, position, state int) int { return (memory + state) % states }, same}.rule(states, l)
}

// dying is the rule that leads to 0 always.
func dying(states int, l []api.Point) rule {
	return machine{0, func(memory, position, state int) int { return 0 }, same}.rule(states, l)
}

// remembering is a random rule that remembers one of a few numbers, and is quiet. Only each k-th number, on average, leads to a state that need
// not be 0.
func remembering(rng *rand.Rand, few, states int, l []api.Point, k int) rule {
	next, end := make([]int, len(l)*few*states), make([]int, few)
	for i := range next {
		next[i] = rng.Intn(few)
	}
	for position := range l {
		next[position*few*states] = 0
	}
	for i := 1; i < few; i++ {
		if rng.Intn(k) == 0 {
			end[i] = rng.Intn(states)
		}
	}
	return machine{
		0, func(memory, position, state int) int { return next[(position*few+memory)*states+state] },
		func(memory int) int { return end[memory] },
	}.rule(states, l)
}

// randomRule returns a random quiet rule, whose tree may be one that is not reduced.
func randomRule(rng *rand.Rand, states int, l []api.Point) rule {
	own := remembering(rng, 2+rng.Intn(12), states, l, 1+rng.Intn(5))
	switch rng.Intn(8) {
	case 0:
		own = summing(states, l)
	case 1:
		own = greatest(states, l)
	}
	if rng.Intn(2) == 0 {
		own.Tree = inserted(own.Tree, rng.Intn(len(own.Nodes)), node(1, slices.Repeat([]int{states - 1}, states)...))
	}
	return own
}

// inserted returns a tree with another node, to which no index refers, before the one with an index.
func inserted(t api.Tree, at int, own api.Node) api.Tree {
	t = laidOut(t)
	for _, other := range t.Nodes {
		for i, e := range other.Next {
			if other.Level > 1 && e >= at {
				other.Next[i]++
			}
		}
	}
	t.Nodes = slices.Insert(t.Nodes, at, own)
	return t
}

// life is the rule B3/S23.
func life() rule {
	l := hood.Moore(1)
	sum := func(memory, position, state int) int {
		if position == hood.Centre(l) {
			return memory + 100*state
		}
		return memory + state
	}
	own := machine{0, sum, func(memory int) int {
		if memory == 3 || memory == 102 || memory == 103 {
			return 1
		}
		return 0
	}}
	return own.rule(2, l)
}

// stateMap is a pattern by its positions.
type stateMap map[api.Point]int

// mapOf returns the states of the cells of a pattern.
func mapOf(p api.Pattern) stateMap {
	m := stateMap{}
	for _, c := range p {
		m[api.Point{X: c.X, Y: c.Y}] = c.S
	}
	return m
}

// pattern returns the pattern of the states other than 0.
func (m stateMap) pattern() api.Pattern {
	var p api.Pattern
	for at, s := range m {
		if s != 0 {
			p = append(p, api.Cell{X: at.X, Y: at.Y, S: s})
		}
	}
	slices.SortFunc(p, func(a, b api.Cell) int {
		if a.Y != b.Y {
			return a.Y - b.Y
		}
		return a.X - b.X
	})
	return p
}

// next returns the new state of a cell.
func (m stateMap) next(own rule, x, y int) int {
	var in []int
	for _, d := range own.Hood {
		in = append(in, m[api.Point{X: x + d.X, Y: y + d.Y}])
	}
	return own.value(in)
}

// isPlace reports whether a position is valid.
func isPlace(x, y int) bool {
	return x >= -most && x <= most && y >= -most && y <= most
}

// stepModel returns what Step has to return, for a quiet rule and a valid pattern.
func stepModel(own rule, p api.Pattern) (api.Pattern, api.Errno) {
	m, after, visited := mapOf(p), stateMap{}, map[api.Point]bool{}
	var e api.Errno
	for _, c := range p {
		for _, d := range hood.Moore(api.MaxRadius) {
			at := api.Point{X: c.X + d.X, Y: c.Y + d.Y}
			if visited[at] {
				continue
			}
			visited[at] = true
			after[at] = m.next(own, at.X, at.Y)
			if after[at] != 0 && !isPlace(at.X, at.Y) {
				e = api.ErrRange
			}
		}
	}
	next := after.pattern()
	if e == api.OK && len(next) > full {
		e = api.ErrSize
	}
	if e != api.OK {
		return nil, e
	}
	return next, api.OK
}

// historyModel returns what History has to return, for a quiet rule, a valid pattern and a valid number of generations.
func historyModel(own rule, p api.Pattern, n int) ([]api.Pattern, api.Errno) {
	all := []api.Pattern{p}
	for i := range n {
		next, e := stepModel(own, all[i])
		if e != api.OK {
			return nil, e
		}
		all = append(all, next)
	}
	return all, api.OK
}

// laid returns a list in new memory, in which two elements follow it; a list that is nil remains so.
func laid[E any](l []E, behind E) []E {
	if l == nil {
		return nil
	}
	longer := append(slices.Clone(l), behind, behind)
	return longer[: len(l) : len(l)+2]
}

// laidOut returns a tree whose lists, at each depth, are new memory that goes on behind them.
func laidOut(t api.Tree) api.Tree {
	t.Hood = laid(t.Hood, api.Point{X: 77, Y: -77})
	t.Nodes = laid(t.Nodes, node(77, -77))
	for i := range t.Nodes {
		t.Nodes[i].Next = laid(t.Nodes[i].Next, 77)
	}
	return t
}

// whole returns a tree whose lists, at each depth, contain what lies behind them in memory.
func whole(t api.Tree) api.Tree {
	t.Hood = t.Hood[:cap(t.Hood)]
	t.Nodes = slices.Clone(t.Nodes[:cap(t.Nodes)])
	for i := range t.Nodes {
		t.Nodes[i].Next = t.Nodes[i].Next[:cap(t.Nodes[i].Next)]
	}
	return t
}

// laidPattern returns a pattern in new memory that goes on behind it.
func laidPattern(p api.Pattern) api.Pattern {
	return laid(p, api.Cell{X: 77, Y: -77, S: 77})
}

// unchanged runs a call with a tree and a pattern, and checks that it left both, and what lies behind them in memory, as they were.
func unchanged(t *testing.T, own api.Tree, p api.Pattern, call func(own api.Tree, p api.Pattern)) {
	t.Helper()
	given, cells := laidOut(own), laidPattern(p)
	call(given, cells)
	if !tree.Same(given, own) || !tree.Same(whole(given), whole(laidOut(own))) {
		t.Errorf("a call changed the tree %s", show(own))
	}
	if want := laidPattern(p); !slices.Equal(cells[:cap(cells)], want[:cap(want)]) {
		t.Errorf("a call changed the pattern %v", short(p))
	}
}

// call is a function of the package by what it returns as a list of patterns. Next returns a list with a pattern of a single cell at (0, 0), or
// an empty one. The number is that of generations, or both coordinates.
type call struct {
	name string
	own  func(own api.Tree, p api.Pattern, n int) ([]api.Pattern, api.Errno)
}

// calls are the functions of the package.
var calls = []call{
	{"Next", func(own api.Tree, p api.Pattern, n int) ([]api.Pattern, api.Errno) {
		s, e := direct.Next(own, p, n, n)
		return []api.Pattern{stateMap{{}: s}.pattern()}, e
	}},
	{"Step", func(own api.Tree, p api.Pattern, n int) ([]api.Pattern, api.Errno) {
		next, e := direct.Step(own, p)
		return []api.Pattern{next}, e
	}},
	{"Run", func(own api.Tree, p api.Pattern, n int) ([]api.Pattern, api.Errno) {
		last, e := direct.Run(own, p, n)
		return []api.Pattern{last}, e
	}},
	{"History", direct.History},
}

// checkError checks that a function returns an error and zero values, and that it leaves its arguments as they are.
func (f call) checkError(t *testing.T, own api.Tree, p api.Pattern, n int, want api.Errno) {
	t.Helper()
	unchanged(t, own, p, func(own api.Tree, p api.Pattern) {
		got, e := f.own(own, p, n)
		for _, l := range got {
			if len(l) > 0 || f.name == "History" {
				t.Errorf("%s with an error returns %v, for %v and %d", f.name, short(l), short(p), n)
			}
		}
		if e != want {
			t.Errorf("%s returns the error %d, not %d, for %s, %v and %d", f.name, e, want, show(own), short(p), n)
		}
	})
}

// checkNext compares Next with an expected result.
func checkNext(t *testing.T, own rule, p api.Pattern, x, y, want int, wanted api.Errno) {
	t.Helper()
	unchanged(t, own.Tree, p, func(own api.Tree, p api.Pattern) {
		if s, e := direct.Next(own, p, x, y); s != want || e != wanted {
			t.Errorf("Next at (%d, %d) of %v is %d with the error %d, not %d with %d, for %s", x, y, short(p), s, e, want, wanted, show(own))
		}
	})
}

// checkPattern compares a result of a call with the expected one. A result is a valid pattern.
func checkPattern(t *testing.T, name string, got api.Pattern, e api.Errno, want api.Pattern, wanted api.Errno) {
	t.Helper()
	if !slices.Equal(got, want) || e != wanted {
		t.Errorf("%s returns %v with the error %d, not %v with %d", name, short(got), e, short(want), wanted)
	}
	if !pattern.Right(got) {
		t.Errorf("%s returns %v, which is not a valid pattern", name, short(got))
	}
}

// checkStep compares Step, and Run and History by one generation, with an expected result.
func checkStep(t *testing.T, own rule, p, want api.Pattern, wanted api.Errno) {
	t.Helper()
	unchanged(t, own.Tree, p, func(own api.Tree, p api.Pattern) {
		got, e := direct.Step(own, p)
		checkPattern(t, "Step of "+text(p), got, e, want, wanted)
	})
	two := []api.Pattern{p, want}
	if wanted != api.OK {
		two = nil
	}
	checkRun(t, own, p, 1, two, wanted)
}

// checkStepModel compares Step, Run and History by one generation with the model, and returns what the model does.
func checkStepModel(t *testing.T, own rule, p api.Pattern) (api.Pattern, api.Errno) {
	t.Helper()
	want, wanted := stepModel(own, p)
	checkStep(t, own, p, want, wanted)
	return want, wanted
}

// checkRun compares Run and History with the expected generations, of which there are none if there is an error.
func checkRun(t *testing.T, own rule, p api.Pattern, n int, want []api.Pattern, wanted api.Errno) {
	t.Helper()
	unchanged(t, own.Tree, p, func(own api.Tree, p api.Pattern) {
		got, e := direct.Run(own, p, n)
		var last api.Pattern
		if len(want) > 0 {
			last = want[len(want)-1]
		}
		checkPattern(t, fmt.Sprintf("Run of %s by %d", text(p), n), got, e, last, wanted)
		all, e := direct.History(own, p, n)
		if e != wanted || len(all) != len(want) {
			t.Fatalf("History of %s by %d returns %d patterns with the error %d, not %d with %d", text(p), n, len(all), e, len(want), wanted)
		}
		for i := range want {
			checkPattern(t, fmt.Sprintf("the generation %d of History of %s by %d", i, text(p), n), all[i], api.OK, want[i], api.OK)
		}
	})
}

// checkRunModel compares Run and History with the model, and returns what the model does.
func checkRunModel(t *testing.T, own rule, p api.Pattern, n int) ([]api.Pattern, api.Errno) {
	t.Helper()
	want, wanted := historyModel(own, p, n)
	checkRun(t, own, p, n, want, wanted)
	return want, wanted
}

// cells returns the pattern of cells in any order, without zeros.
func cells(l ...api.Cell) api.Pattern {
	return mapOf(l).pattern()
}

// ones returns the pattern of the letters o of a drawing in state 1, whose first letter is at (x, y).
func ones(x, y int, drawing string) api.Pattern {
	var p api.Pattern
	for dy, line := range strings.Fields(drawing) {
		for dx, c := range line {
			if c == 'o' {
				p = append(p, api.Cell{X: x + dx, Y: y + dy, S: 1})
			}
		}
	}
	return p
}

// glider is the pattern of the first example of the whole.
const glider = ".o. ..o ooo"

// block returns the cells of a box with different states of a rule in order.
func block(x, y, w, h, states int) api.Pattern {
	var p api.Pattern
	for i := range w * h {
		p = append(p, api.Cell{X: x + i%w, Y: y + i/w, S: 1 + i%(states-1)})
	}
	return p
}

// lattice returns n cells with different states of a rule, w of them in a row, each d positions from the next one.
func lattice(x, y, n, w, d, states int) api.Pattern {
	var p api.Pattern
	for i := range n {
		p = append(p, api.Cell{X: x + i%w*d, Y: y + i/w*d, S: 1 + i%(states-1)})
	}
	return p
}

// randomPattern returns at most n cells of a random box with sides of at most size, from (x, y) on.
func randomPattern(rng *rand.Rand, x, y, n, size, states int) api.Pattern {
	var l []api.Cell
	w, h := 1+rng.Intn(size), 1+rng.Intn(size)
	for range rng.Intn(n + 1) {
		l = append(l, api.Cell{X: x + rng.Intn(w), Y: y + rng.Intn(h), S: 1 + rng.Intn(states-1)})
	}
	return cells(l...)
}

// moved returns a pattern that is moved.
func moved(t *testing.T, p api.Pattern, dx, dy int) api.Pattern {
	t.Helper()
	p, e := pattern.Shift(p, dx, dy)
	if e != api.OK {
		t.Errorf("Shift by (%d, %d) returns the error %d", dx, dy, e)
	}
	return p
}

// show returns the beginning of what a tree contains, for messages.
func show(t api.Tree) string {
	t.Hood = t.Hood[:min(len(t.Hood), 30)]
	t.Nodes = t.Nodes[:min(len(t.Nodes), 20)]
	s := fmt.Sprintf("%+v", t)
	return s[:min(len(s), 400)]
}

// short returns the beginning of a list, for messages.
func short(p api.Pattern) []api.Cell {
	return p[:min(len(p), 12)]
}

// text returns the beginning of a list as a text, for messages.
func text(p api.Pattern) string {
	return fmt.Sprint(short(p))
}
