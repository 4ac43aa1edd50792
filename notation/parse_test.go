package notation_test

import (
	"math"
	"math/rand"
	"slices"
	"strconv"
	"testing"

	"cellular/api"
	"cellular/generations"
	"cellular/lifelike"
	"cellular/notation"
	"cellular/reduce"
	"cellular/ruletable"
	"cellular/tabletree"
	"cellular/totaltree"
	"cellular/tree"
)

// checkParsed compares Parse with the tree that a call returns without an error, and checks that it is reduced.
func checkParsed(t *testing.T, s string, want api.Tree, wanted api.Errno) {
	t.Helper()
	got, e := notation.Parse(s)
	checkTree(t, got, e, want, api.OK, "Parse("+quote(s)+")")
	if wanted != api.OK || !tree.Same(reduce.Reduce(got), got) {
		t.Errorf("the tree of %s is not reduced, or there is the error %d", quote(s), wanted)
	}
}

// P16.2: trees of each kind, node by node.
func TestParseNodes(t *testing.T) {
	for _, c := range []struct {
		s    string
		want api.Tree
	}{
		{"B/SV", made(2, neumann, node(1, 0, 0), node(2, 0, 0), node(3, 1, 1), node(4, 2, 2), node(5, 3, 3))},
		{"B01234/S01234V", made(2, neumann, node(1, 1, 1), node(2, 0, 0), node(3, 1, 1), node(4, 2, 2), node(5, 3, 3))},
		{"B/S01234V", made(2, neumann, node(1, 0, 0), node(2, 0, 0), node(1, 1, 1), node(2, 2, 2), node(3, 1, 3), node(4, 4, 4), node(5, 5, 5))},
		{"//3V", made(3, neumann,
			node(1, 0, 0, 0), node(2, 0, 0, 0), node(1, 2, 2, 2), node(2, 2, 2, 2), node(3, 1, 3, 1), node(4, 4, 4, 4), node(5, 5, 5, 5))},
		{"W0", made(2, line, node(1, 0, 0), node(2, 0, 0), node(3, 1, 1))},
		{"W90", made(2, line, node(1, 0, 1), node(2, 0, 0), node(1, 1, 0), node(2, 2, 2), node(3, 1, 3))},
		{"W110", made(2, line, node(1, 0, 1), node(1, 1, 1), node(2, 0, 1), node(1, 1, 0), node(2, 0, 3), node(3, 2, 4))},
		{"T6/2", made(2, line, node(1, 0, 1), node(1, 1, 1), node(2, 0, 1), node(1, 1, 0), node(2, 1, 3), node(3, 2, 4))},
		{"T1/3", made(3, line, node(1, 1, 0, 0), node(1, 0, 0, 0), node(2, 0, 1, 1), node(2, 1, 1, 1), node(3, 2, 3, 3))},
		{rowTable, made(2, line, node(1, 0, 0), node(1, 0, 1), node(2, 0, 1), node(1, 1, 0), node(2, 3, 3), node(3, 2, 4))},
		{"states 3\nhood line\nsymmetry none", made(3, line,
			node(1, 0, 0, 0), node(1, 1, 1, 1), node(1, 2, 2, 2), node(2, 0, 1, 2), node(3, 3, 3, 3))},
	} {
		checkParsed(t, c.s, c.want, api.OK)
	}
}

// totals returns the rule by counts with the neighbourhood of a letter.
func totals(letter string, states int, birth, survive []int) api.Totals {
	return api.Totals{Hood: drawn(usual[letter]), States: states, Birth: birth, Survive: survive}
}

// joined returns the digits of numbers.
func joined(l []int) string {
	var s string
	for _, n := range l {
		s += strconv.Itoa(n)
	}
	return s
}

// notationsOf returns all notations of a rule by counts with the neighbourhood of a letter, of which the first one is canonical.
func notationsOf(letter string, x api.Totals) []string {
	birth, survive, states := joined(x.Birth), joined(x.Survive), strconv.Itoa(x.States)
	if x.States == 2 {
		return []string{"B" + birth + "/S" + survive + letter}
	}
	return []string{"B" + birth + "/S" + survive + "/C" + states + letter, survive + "/" + birth + "/" + states + letter}
}

// randomNumbers returns some numbers below a limit, in ascending order.
func randomNumbers(rng *rand.Rand, limit int) []int {
	var l []int
	for n := range limit {
		if rng.Intn(3) == 0 {
			l = append(l, n)
		}
	}
	return l
}

// someTotals returns rules by counts with the neighbourhood of a letter: such with no numbers of neighbours, with all of them, and others.
func someTotals(rng *rand.Rand, letter string, states int) []api.Totals {
	limit := len(drawn(usual[letter]))
	all := []int{0, 1, 2, 3, 4, 5, 6, 7, 8}[:limit]
	rules := []api.Totals{
		totals(letter, states, nil, nil), totals(letter, states, all, all), totals(letter, states, all, nil), totals(letter, states, nil, all),
		totals(letter, states, []int{3}, []int{2, 3}), totals(letter, states, []int{limit - 1}, []int{0}),
	}
	for range 6 {
		rules = append(rules, totals(letter, states, randomNumbers(rng, limit), randomNumbers(rng, limit)))
	}
	return rules
}

// P16.2: rules by counts with each neighbourhood and each number of states, in all notations.
func TestParseCounts(t *testing.T) {
	t.Parallel()
	rng := rand.New(rand.NewSource(163))
	for letter := range usual {
		for states := 2; states <= api.MaxStates; states++ {
			for _, x := range someTotals(rng, letter, states) {
				want, e := totaltree.Totals(x)
				for _, s := range notationsOf(letter, x) {
					checkParsed(t, s, want, e)
				}
			}
		}
	}
}

// newState returns the new state of a rule by counts for the state of the centre and the number of neighbours in state 1.
func newState(x api.Totals, centre, count int) int {
	switch {
	case centre == 0 && slices.Contains(x.Birth, count), centre == 1 && slices.Contains(x.Survive, count):
		return 1
	case centre == 0, centre == x.States-1:
		return 0
	}
	return centre + 1
}

// around returns states of a neighbourhood with a state of the centre, in which the first neighbours of an order have the state 1, and the
// others any state but 1.
func around(rng *rand.Rand, x api.Totals, centre, count int, order []int) []int {
	in := make([]int, len(order))
	for i, k := range order {
		if i < count {
			in[k] = 1
		} else if s := rng.Intn(x.States); s != 1 {
			in[k] = s
		}
	}
	return slices.Insert(in, len(in)/2, centre)
}

// P16.6: the new states of rules by counts, for all states of the centre and all numbers of neighbours, wherever these are.
func TestParseNext(t *testing.T) {
	t.Parallel()
	rng := rand.New(rand.NewSource(164))
	for letter := range usual {
		for states := 2; states <= api.MaxStates; states++ {
			for _, x := range someTotals(rng, letter, states) {
				all := notationsOf(letter, x)
				s := all[rng.Intn(len(all))]
				own, _ := notation.Parse(s)
				parsed, e := lifelike.Parse(s)
				if states > 2 {
					parsed, e = generations.Parse(s)
				}
				if e != api.OK || !tree.Right(own) {
					t.Fatalf("%s has no rule", quote(s))
				}
				for centre := range states {
					for count := range len(x.Hood) {
						checkNext(t, rng, own, parsed, x, centre, count)
					}
				}
			}
		}
	}
}

// checkNext compares the new states of a tree with those of the rule that was parsed, and of the rule that was meant.
func checkNext(t *testing.T, rng *rand.Rand, own api.Tree, parsed, x api.Totals, centre, count int) {
	t.Helper()
	want := generations.Next(parsed, centre, count)
	if want != newState(x, centre, count) {
		t.Errorf("the rule %v leads from %d with %d neighbours to %d", x, centre, count, want)
	}
	up := make([]int, len(x.Hood)-1)
	for i := range up {
		up[i] = i
	}
	down := slices.Clone(up)
	slices.Reverse(down)
	for _, order := range [][]int{up, down, rng.Perm(len(up)), rng.Perm(len(up))} {
		in := around(rng, x, centre, count, order)
		if s, e := tree.Eval(own, in); s != want || e != api.OK {
			t.Errorf("the tree of the rule %v leads from %v to %d with the error %d, not to %d", x, in, s, e, want)
		}
	}
}

// P16.2: all elementary rules; the new states are the bits of the number.
func TestParseElementary(t *testing.T) {
	for n := range 256 {
		s := "W" + strconv.Itoa(n)
		want, e := totaltree.Elementary(n)
		checkParsed(t, s, want, e)
		bits := spread(2, drawn(line), func(in []int) int { return n >> (in[0]*4 + in[1]*2 + in[2]) & 1 })
		checkParsed(t, s, reduce.Reduce(bits), api.OK)
	}
}

// P16.2: totalistic rules with each number of states; the new states are the digits of the code.
func TestParseSums(t *testing.T) {
	rng := rand.New(rand.NewSource(165))
	for states := 2; states <= api.MaxStates; states++ {
		codes := 1
		for range min(3*states-2, 18) {
			codes *= states
		}
		list := []int{0, 1, states, codes / states, codes / 2, codes - 1}
		for range 50 {
			list = append(list, rng.Intn(codes))
		}
		if states < 4 {
			for n := range codes {
				list = append(list, n)
			}
		}
		for _, n := range list {
			s := "T" + strconv.Itoa(n) + "/" + strconv.Itoa(states)
			want, e := totaltree.Sums(states, n)
			checkParsed(t, s, want, e)
			digits := spread(states, drawn(line), func(in []int) int { return digit(states, n, in[0]+in[1]+in[2]) })
			checkParsed(t, s, reduce.Reduce(digits), api.OK)
		}
	}
	want, e := totaltree.Sums(8, math.MaxInt)
	checkParsed(t, "T9223372036854775807/8", want, e)
}

// digit returns a digit of a number, of which the lowest one is 0.
func digit(base, n, k int) int {
	for range k {
		n /= base
	}
	return n % base
}

// row returns a row of a table.
func row(out int, ins ...int) api.Row {
	return api.Row{Ins: ins, Out: out}
}

// tables are texts of tables, and the tables that they stand for.
var tables = []struct {
	s    string
	want api.Table
}{
	{rowTable, api.Table{States: 2, Hood: drawn(line), Vars: [][]int{{0, 1}}, Rows: []api.Row{row(1, 1, -1, 0), row(0, -1, 1, -1)}}},
	// Comments, blanks, lines without words, and a last line without a line feed.
	{"# a table\n\n\t states\t2 # two\n  hood  line\n \t \nsymmetry none\t\n#\nvar x1 0\t1\n 1 x1\t0  -> 1#a row\nx1 1 x1 -> 0",
		api.Table{States: 2, Hood: drawn(line), Vars: [][]int{{0, 1}}, Rows: []api.Row{row(1, 1, -1, 0), row(0, -1, 1, -1)}}},
	// No row, with each neighbourhood and each kind of symmetry.
	{lines("states 2", "hood line", "symmetry none"), api.Table{States: 2, Hood: drawn(line)}},
	{lines("states 8", "hood line", "symmetry permute"), api.Table{States: 8, Hood: drawn(line), Sym: api.SymPermute}},
	{lines("states 4", "hood hex", "symmetry none"), api.Table{States: 4, Hood: drawn(hex)}},
	{lines("states 8", "hood neumann", "symmetry rotate"), api.Table{States: 8, Hood: drawn(neumann), Sym: api.SymRotate}},
	{lines("states 3", "hood moore", "symmetry reflect"), api.Table{States: 3, Hood: drawn(moore), Sym: api.SymReflect}},
	// One row, for each kind of symmetry.
	{lines("states 3", "hood neumann", "symmetry none", "1 2 0 0 0 -> 2"),
		api.Table{States: 3, Hood: drawn(neumann), Rows: []api.Row{row(2, 1, 2, 0, 0, 0)}}},
	{lines("states 3", "hood neumann", "symmetry rotate", "1 2 0 0 0 -> 2"),
		api.Table{States: 3, Hood: drawn(neumann), Sym: api.SymRotate, Rows: []api.Row{row(2, 1, 2, 0, 0, 0)}}},
	{lines("states 3", "hood neumann", "symmetry reflect", "1 2 0 0 0 -> 2"),
		api.Table{States: 3, Hood: drawn(neumann), Sym: api.SymReflect, Rows: []api.Row{row(2, 1, 2, 0, 0, 0)}}},
	{lines("states 3", "hood neumann", "symmetry permute", "1 2 0 0 0 -> 2"),
		api.Table{States: 3, Hood: drawn(neumann), Sym: api.SymPermute, Rows: []api.Row{row(2, 1, 2, 0, 0, 0)}}},
	// Several variables and rows, of which the first one that decides counts.
	{lines("states 3", "hood hex", "symmetry permute", "var live 1 2", "var any 0 1 2", "var z 0",
		"live z z 0 z z live -> live", "any any any 1 any any any -> any", "any live 1 2 z z z -> 0", "any live 1 2 z z z -> 1"),
		api.Table{States: 3, Hood: drawn(hex), Sym: api.SymPermute, Vars: [][]int{{1, 2}, {0, 1, 2}, {0}}, Rows: []api.Row{
			row(-1, -1, -3, -3, 0, -3, -3, -1), row(-2, -2, -2, -2, 1, -2, -2, -2), row(0, -2, -1, 1, 2, -3, -3, -3), row(1, -2, -1, 1, 2, -3, -3, -3),
		}}},
	{lines("states 2", "hood moore", "symmetry reflect", "var c 0 1", "1 1 1 0 c 0 0 0 0 -> 1", "1 1 0 0 1 0 0 0 0 -> 0"),
		api.Table{States: 2, Hood: drawn(moore), Sym: api.SymReflect, Vars: [][]int{{0, 1}}, Rows: []api.Row{
			row(1, 1, 1, 1, 0, -1, 0, 0, 0, 0), row(0, 1, 1, 0, 0, 1, 0, 0, 0, 0),
		}}},
}

// P16.2: rule tables, compared with the tree of the table and with its new states.
func TestParseTables(t *testing.T) {
	for _, c := range tables {
		want, e := tabletree.Tree(c.want)
		checkParsed(t, c.s, want, e)
		own, _ := notation.Parse(c.s)
		for _, in := range everyState(c.want.States, len(c.want.Hood)) {
			if s, _ := ruletable.Next(c.want, in); followed(own, in) != s {
				t.Errorf("%s leads from %v to %d, not %d", quote(c.s), in, followed(own, in), s)
			}
		}
	}
}

// P16.2, and LANGUAGE.md, rule 7: the tree is new memory, and no two lists of it share memory.
func TestParseIsNew(t *testing.T) {
	list := []string{"B3/S23", "B2/S34H", "B/SV", "B2/S345/C4", "//8V", "W0", "W110", "T6/2", "T777/3"}
	for _, c := range tables {
		list = append(list, c.s)
	}
	for _, s := range list {
		got, _ := notation.Parse(s)
		want, again := laidOut(got), laidOut(got)
		for i := range got.Nodes {
			fill(got.Nodes[i].Next, 99)
			want.Nodes[i].Next = slices.Repeat([]int{99}, got.States)
			if !tree.Same(got, want) {
				t.Errorf("the node %d of the tree of %s shares memory", i, quote(s))
			}
		}
		fill(got.Hood, api.Point{X: 99})
		fill(got.Nodes, node(99))
		checkParsed(t, s, again, api.OK)
	}
}
