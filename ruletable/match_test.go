package ruletable_test

import (
	"math"
	"math/rand"
	"slices"
	"testing"

	"cellular/api"
	"cellular/ruletable"
)

// checkMatch compares Match with the model, and checks that it changes nothing.
func checkMatch(t *testing.T, own api.Table, i int, in []int) {
	t.Helper()
	want, decides := matchModel(own, i, in)
	unchanged(t, own, in, func(given api.Table, list []int) {
		if got, is := ruletable.Match(given, i, list); got != want || is != decides {
			t.Errorf("Match(%s, %d, %v) is %d and %v, not %d and %v", show(own), i, in, got, is, want, decides)
		}
	})
}

// checkNext compares Next with the model, and checks that it changes nothing.
func checkNext(t *testing.T, own api.Table, in []int) {
	t.Helper()
	want, expected := nextModel(own, in)
	unchanged(t, own, in, func(given api.Table, list []int) {
		if got, e := ruletable.Next(given, list); got != want || e != expected {
			t.Errorf("Next(%s, %v) is %d and the error %d, not %d and %d", show(own), in, got, e, want, expected)
		}
	})
}

// checkAll compares Next, and Match of each row, with the model.
func checkAll(t *testing.T, own api.Table, in []int) {
	t.Helper()
	checkNext(t, own, in)
	for i := range own.Rows {
		checkMatch(t, own, i, in)
	}
}

// decision is what Match has to return for states.
type decision struct {
	in      []int
	out     int
	decides bool
}

// checkDecisions checks what Match returns for the only row of a table, and that Next decides likewise.
func checkDecisions(t *testing.T, own api.Table, list []decision) {
	t.Helper()
	for _, c := range list {
		if got, is := ruletable.Match(own, 0, c.in); got != c.out || is != c.decides {
			t.Errorf("Match(%s, 0, %v) is %d and %v", show(own), c.in, got, is)
		}
		if got, e := ruletable.Next(own, c.in); c.decides && (got != c.out || e != api.OK) {
			t.Errorf("Next(%s, %v) is %d and the error %d", show(own), c.in, got, e)
		}
		checkAll(t, own, c.in)
	}
}

// P11.2: the first example of the chapter.
func TestNextExample(t *testing.T) {
	own := tableOf(t, "states 2", "hood line", "symmetry none", "var a 0 1", "1 a 0 -> 1", "a 1 a -> 0")
	for _, c := range []struct {
		in   []int
		rows []int
		want int
	}{
		{[]int{0, 0, 0}, nil, 0}, {[]int{0, 0, 1}, nil, 0}, {[]int{0, 1, 0}, []int{1}, 0}, {[]int{0, 1, 1}, nil, 1},
		{[]int{1, 0, 0}, []int{0}, 1}, {[]int{1, 0, 1}, nil, 0}, {[]int{1, 1, 0}, []int{0}, 1}, {[]int{1, 1, 1}, []int{1}, 0},
	} {
		if got, e := ruletable.Next(own, c.in); got != c.want || e != api.OK {
			t.Errorf("Next of %v is %d and the error %d", c.in, got, e)
		}
		for i, r := range own.Rows {
			want := decision{in: c.in}
			if slices.Contains(c.rows, i) {
				want.out, want.decides = r.Out, true
			}
			if got, is := ruletable.Match(own, i, c.in); got != want.out || is != want.decides {
				t.Errorf("Match of the row %d and %v is %d and %v", i, c.in, got, is)
			}
		}
		checkAll(t, own, c.in)
	}
}

// P11.2: the second example of the chapter.
func TestMatchExample(t *testing.T) {
	own := tableOf(t, "states 2", "hood neumann", "symmetry rotate", "1 0 0 0 0 -> 1")
	for _, in := range everyState(2, 5) {
		want := decision{in: in}
		if in[0]+in[1]+in[3]+in[4] == 1 && in[2] == 0 {
			want = decision{in, 1, true}
		}
		checkDecisions(t, own, []decision{want})
	}
}

// P11.2: variables that occur once and twice, with different states.
func TestMatchVariables(t *testing.T) {
	head := []string{"states 3", "hood line", "symmetry none", "var a 0 1", "var b 1 2", "var c 1"}
	for _, c := range []struct {
		row  string
		list []decision
	}{
		{"a 0 0 -> 2", []decision{{[]int{0, 0, 0}, 2, true}, {[]int{1, 0, 0}, 2, true}, {[]int{2, 0, 0}, 0, false}, {[]int{0, 1, 0}, 0, false}}},
		{"a b 0 -> a", []decision{{[]int{0, 2, 0}, 0, true}, {[]int{1, 2, 0}, 1, true}, {[]int{1, 0, 0}, 0, false}, {[]int{2, 2, 0}, 0, false}}},
		{"a b 0 -> b", []decision{{[]int{0, 2, 0}, 2, true}, {[]int{1, 1, 0}, 1, true}, {[]int{0, 2, 1}, 0, false}}},
		{"a b a -> b", []decision{{[]int{0, 2, 0}, 2, true}, {[]int{0, 2, 1}, 0, false}, {[]int{1, 2, 0}, 0, false}, {[]int{2, 2, 2}, 0, false}}},
		{"a a a -> a", []decision{{[]int{0, 0, 0}, 0, true}, {[]int{1, 1, 1}, 1, true}, {[]int{2, 2, 2}, 0, false}, {[]int{0, 0, 1}, 0, false}}},
		{"0 b b -> b", []decision{{[]int{0, 1, 1}, 1, true}, {[]int{0, 2, 2}, 2, true}, {[]int{0, 1, 2}, 0, false}, {[]int{0, 2, 1}, 0, false}}},
		{"a b c -> 0", []decision{{[]int{1, 1, 1}, 0, true}, {[]int{0, 2, 1}, 0, true}, {[]int{0, 2, 0}, 0, false}, {[]int{1, 2, 2}, 0, false}}},
		{"c b c -> c", []decision{{[]int{1, 2, 1}, 1, true}, {[]int{1, 1, 1}, 1, true}, {[]int{1, 0, 1}, 0, false}}},
	} {
		checkDecisions(t, tableOf(t, append(slices.Clone(head), c.row)...), c.list)
	}
}

// P11.2: rows that decide in some of the orders only, with each kind of symmetry.
func TestMatchOrders(t *testing.T) {
	// The positions of moore are counted row by row.
	for _, c := range []struct {
		row     string
		in      []int
		decides [4]bool
	}{
		{"1 2 0 0 0 0 0 0 0 -> 1", []int{1, 2, 0, 0, 0, 0, 0, 0, 0}, [4]bool{true, true, true, true}},
		{"1 2 0 0 0 0 0 0 0 -> 1", []int{0, 0, 1, 0, 0, 2, 0, 0, 0}, [4]bool{false, true, true, true}},
		{"1 2 0 0 0 0 0 0 0 -> 1", []int{0, 0, 0, 0, 0, 0, 0, 2, 1}, [4]bool{false, true, true, true}},
		{"1 2 0 0 0 0 0 0 0 -> 1", []int{0, 0, 0, 2, 0, 0, 1, 0, 0}, [4]bool{false, true, true, true}},
		{"1 2 0 0 0 0 0 0 0 -> 1", []int{0, 2, 1, 0, 0, 0, 0, 0, 0}, [4]bool{false, false, true, true}},
		{"1 2 0 0 0 0 0 0 0 -> 1", []int{1, 0, 0, 2, 0, 0, 0, 0, 0}, [4]bool{false, false, true, true}},
		{"1 2 0 0 0 0 0 0 0 -> 1", []int{0, 0, 0, 0, 0, 2, 0, 0, 1}, [4]bool{false, false, true, true}},
		{"1 2 0 0 0 0 0 0 0 -> 1", []int{0, 0, 0, 0, 0, 0, 1, 2, 0}, [4]bool{false, false, true, true}},
		{"1 2 0 0 0 0 0 0 0 -> 1", []int{1, 0, 2, 0, 0, 0, 0, 0, 0}, [4]bool{false, false, false, true}},
		{"1 2 0 0 0 0 0 0 0 -> 1", []int{2, 1, 0, 0, 0, 0, 0, 0, 0}, [4]bool{false, false, false, true}},
		{"1 2 0 0 0 0 0 0 0 -> 1", []int{1, 0, 0, 0, 0, 0, 0, 0, 2}, [4]bool{false, false, false, true}},
		{"1 2 0 0 0 0 0 0 0 -> 1", []int{1, 0, 0, 0, 2, 0, 0, 0, 0}, [4]bool{}},
		{"1 2 0 0 0 0 0 0 0 -> 1", []int{2, 0, 0, 0, 1, 0, 0, 0, 0}, [4]bool{}},
		{"1 2 0 0 0 0 0 0 0 -> 1", []int{1, 2, 1, 0, 0, 0, 0, 0, 0}, [4]bool{}},
		{"1 2 0 0 0 0 0 0 0 -> 1", []int{1, 2, 0, 0, 1, 0, 0, 0, 0}, [4]bool{}},
		{"0 0 0 0 2 0 0 0 1 -> 1", []int{1, 0, 0, 0, 2, 0, 0, 0, 0}, [4]bool{false, true, true, true}},
		{"0 0 0 0 2 0 0 0 1 -> 1", []int{0, 1, 0, 0, 2, 0, 0, 0, 0}, [4]bool{false, false, false, true}},
		{"0 0 0 0 2 0 0 0 1 -> 1", []int{2, 0, 0, 0, 1, 0, 0, 0, 0}, [4]bool{}},
		{"a 0 0 0 a 0 0 0 0 -> 1", []int{0, 0, 2, 0, 2, 0, 0, 0, 0}, [4]bool{false, true, true, true}},
		{"a 0 0 0 a 0 0 0 0 -> 1", []int{0, 2, 0, 0, 2, 0, 0, 0, 0}, [4]bool{false, false, false, true}},
		{"a 0 0 0 a 0 0 0 0 -> 1", []int{0, 0, 2, 0, 1, 0, 0, 0, 0}, [4]bool{}},
		{"a a 0 0 0 0 0 0 0 -> 1", []int{1, 0, 2, 0, 0, 0, 0, 0, 0}, [4]bool{}},
		{"a a 0 0 0 0 0 0 0 -> 1", []int{2, 0, 2, 0, 0, 0, 0, 0, 0}, [4]bool{false, false, false, true}},
		{"b b 0 0 0 0 0 0 0 -> 1", []int{2, 0, 2, 0, 0, 0, 0, 0, 0}, [4]bool{}},
	} {
		for sym, decides := range c.decides {
			own := tableOf(t, "states 3", "hood moore", "symmetry "+symWords[sym], "var a 1 2", "var b 0 1", c.row)
			want := decision{in: c.in, decides: decides}
			if decides {
				want.out = 1
			}
			checkDecisions(t, own, []decision{want})
		}
	}
}

// P11.2: several rows that one row stands for match, with different new states, of which the least counts.
func TestMatchLeast(t *testing.T) {
	for _, c := range []struct {
		text []string
		list []decision
	}{
		{[]string{"states 4", "hood neumann", "symmetry rotate", "var a 1 2 3", "var b 0 1 2 3", "a b b b b -> a"}, nil},
		{
			[]string{"states 4", "hood neumann", "symmetry rotate", "var a 1 2 3", "var b 0 1 2 3", "var c 0 1 2 3", "var d 0 1 2 3", "a b 0 c d -> a"},
			[]decision{
				{[]int{3, 2, 0, 1, 2}, 1, true}, {[]int{3, 0, 0, 0, 0}, 3, true}, {[]int{0, 0, 0, 2, 3}, 2, true}, {[]int{0, 0, 0, 0, 0}, 0, false},
				{[]int{3, 3, 0, 3, 2}, 2, true}, {[]int{3, 3, 1, 3, 2}, 0, false},
			},
		},
		{
			[]string{"states 4", "hood neumann", "symmetry reflect", "var a 1 2 3", "var b 0 1 2 3", "var c 0 1 2 3", "a b 0 0 c -> b"},
			[]decision{{[]int{3, 2, 0, 0, 1}, 2, true}, {[]int{1, 0, 0, 3, 2}, 3, true}, {[]int{0, 1, 0, 3, 0}, 0, true}, {[]int{1, 1, 0, 1, 1}, 0, false}},
		},
		{
			[]string{"states 4", "hood neumann", "symmetry permute", "var a 1 2 3", "var b 0 1 2 3", "var c 0 1 2 3", "a b 0 c c -> b"},
			[]decision{
				{[]int{3, 2, 0, 1, 1}, 2, true}, {[]int{1, 1, 0, 1, 1}, 1, true}, {[]int{0, 0, 0, 1, 0}, 0, true}, {[]int{0, 1, 0, 2, 3}, 0, false},
				{[]int{3, 0, 0, 0, 2}, 2, true}, {[]int{0, 0, 0, 0, 0}, 0, false},
			},
		},
		{
			[]string{"states 4", "hood line", "symmetry permute", "var a 1 2 3", "a a 0 -> a", "0 0 a -> 1", "3 1 2 -> 3"},
			[]decision{{[]int{2, 2, 0}, 2, true}, {[]int{0, 3, 3}, 3, true}, {[]int{3, 2, 0}, 0, false}, {[]int{3, 0, 3}, 0, false}},
		},
		{
			[]string{"states 5", "hood hex", "symmetry permute", "var a 1 2 3 4", "var b 0 2 3", "var c 0 1 2 3 4", "a b b 0 b c c -> a"},
			[]decision{
				{[]int{3, 2, 2, 0, 2, 4, 4}, 3, true}, {[]int{4, 4, 2, 0, 4, 2, 2}, 4, true}, {[]int{1, 1, 1, 0, 1, 1, 1}, 0, false},
				{[]int{2, 2, 2, 0, 3, 3, 3}, 2, true}, {[]int{3, 3, 3, 0, 3, 3, 3}, 3, true}, {[]int{0, 0, 0, 0, 0, 0, 1}, 1, true},
			},
		},
	} {
		checkDecisions(t, tableOf(t, c.text...), c.list)
		own := tableOf(t, c.text...)
		if len(own.Hood) > 5 {
			continue
		}
		for _, in := range everyState(own.States, len(own.Hood)) {
			checkNext(t, own, in)
		}
	}
}

// rearranged returns the rows that a row stands for, each of them once.
func rearranged(t api.Table, r api.Row) []api.Row {
	all := map[[5]int]bool{}
	if t.Sym != 3 {
		for _, k := range turnsOf(t.Sym) {
			all[[5]int(turnedRow(t.Hood, k, r.Ins))] = true
		}
	} else {
		centre := slices.Index(t.Hood, api.Point{})
		exchange([5]int(r.Ins), centre, 0, all)
	}
	var rows []api.Row
	for ins := range all {
		rows = append(rows, row(r.Out, ins[:]...))
	}
	return rows
}

// exchange collects the orders of a row in which the elements before a place, and that of the centre, stay where they are.
func exchange(ins [5]int, centre, from int, all map[[5]int]bool) {
	if from == len(ins) {
		all[ins] = true
		return
	}
	exchange(ins, centre, from+1, all)
	for to := from + 1; to < len(ins); to++ {
		if from != centre && to != centre {
			ins[from], ins[to] = ins[to], ins[from]
			exchange(ins, centre, from+1, all)
			ins[from], ins[to] = ins[to], ins[from]
		}
	}
}

// P11.2: a row decides just if one of those that it stands for matches, as a row of a table without symmetry.
func TestMatchStandsFor(t *testing.T) {
	rng := rand.New(rand.NewSource(112))
	for _, drawing := range []string{named["neumann"], corners, far, swirl} {
		for sym := range 4 {
			for range 30 {
				if !permitsModel(drawn(drawing), sym) {
					continue
				}
				own := randomTable(rng, drawing, sym, 2+rng.Intn(2), 3, 1)
				single := api.Table{States: own.States, Hood: own.Hood, Vars: own.Vars, Rows: rearranged(own, own.Rows[0])}
				for _, in := range everyState(own.States, 5) {
					least, decides := 0, false
					for i := range single.Rows {
						if state, is := ruletable.Match(single, i, in); is && (!decides || state < least) {
							least, decides = state, true
						}
					}
					if got, is := ruletable.Match(own, 0, in); got != least || is != decides {
						t.Errorf("Match(%s, 0, %v) is %d and %v, not %d and %v", show(own), in, got, is, least, decides)
					}
				}
			}
		}
	}
}

// P11.2: random tables of all neighbourhoods and kinds of symmetries.
func TestMatchRandom(t *testing.T) {
	rng := rand.New(rand.NewSource(113))
	for _, c := range permitted {
		n := len(drawn(c.drawing))
		for _, sym := range c.syms {
			for range 60 {
				own := randomTable(rng, c.drawing, sym, 2+rng.Intn(7), rng.Intn(5), 1+rng.Intn(5))
				for range 5 {
					checkAll(t, own, randomStates(rng, own.States, n))
					checkAll(t, own, likeRow(rng, own))
				}
			}
		}
	}
}

// likeRow returns states that a row of a table may match: each element has the same state wherever it is, and some are exchanged.
func likeRow(rng *rand.Rand, t api.Table) []int {
	given := map[int]int{}
	var in []int
	for _, e := range t.Rows[rng.Intn(len(t.Rows))].Ins {
		if _, has := given[e]; !has {
			given[e] = e
			if e < 0 {
				states := t.Vars[-1-e]
				given[e] = states[rng.Intn(len(states))]
			}
		}
		in = append(in, given[e])
	}
	switch rng.Intn(4) {
	case 0:
		i, j := rng.Intn(len(in)), rng.Intn(len(in))
		in[i], in[j] = in[j], in[i]
	case 1:
		return turnedRow(t.Hood, turnsOf(t.Sym % 3)[rng.Intn(len(turnsOf(t.Sym%3)))], in)
	case 2:
		in[rng.Intn(len(in))] = rng.Intn(t.States)
	}
	return in
}

// P11.2: every list of states, for small neighbourhoods.
func TestMatchEveryState(t *testing.T) {
	rng := rand.New(rand.NewSource(114))
	for _, c := range permitted {
		n := len(drawn(c.drawing))
		if n > 5 {
			continue
		}
		for _, sym := range c.syms {
			for range 6 {
				own := randomTable(rng, c.drawing, sym, 2+rng.Intn(2), 1+rng.Intn(3), 1+rng.Intn(4))
				for _, in := range everyState(own.States, n) {
					checkAll(t, own, in)
				}
			}
		}
	}
}

// P11.2: with SymPermute, nine elements of which some are exchanged, and one of them may be the centre.
func TestMatchPermuted(t *testing.T) {
	rng := rand.New(rand.NewSource(115))
	for _, drawing := range []string{named["moore"], nine, nineRound, ring8} {
		n := len(drawn(drawing))
		for range 300 {
			own := api.Table{States: 2 + rng.Intn(7), Sym: api.SymPermute, Hood: drawn(drawing)}
			for range n {
				states := randomSet(rng, own.States)
				own.Vars = append(own.Vars, states[:min(2, len(states))])
			}
			var r api.Row
			for range n {
				r.Ins = append(r.Ins, rng.Intn(own.States+n)-n)
			}
			r.Out = r.Ins[rng.Intn(n)]
			own.Rows = []api.Row{r}
			for range 10 {
				in := likeRow(rng, own)
				checkMatch(t, own, 0, in)
				centre := slices.Index(own.Hood, api.Point{})
				for range 5 {
					i, j := rng.Intn(n), rng.Intn(n)
					if i != centre && j != centre {
						in[i], in[j] = in[j], in[i]
					}
				}
				checkMatch(t, own, 0, in)
			}
		}
	}
}

// P11.2: with SymPermute the element of the centre stays, whichever of the positions is the centre.
func TestMatchCentreStays(t *testing.T) {
	for _, drawing := range []string{named["moore"], named["line"], first, last, pair} {
		n := len(drawn(drawing))
		centre := slices.Index(drawn(drawing), api.Point{})
		for place := range n {
			// The element is the state 1, or a variable that is the new state as well.
			for _, c := range []struct{ element, out, state int }{{1, 2, 2}, {-1, -1, 1}} {
				own := api.Table{States: 3, Sym: api.SymPermute, Hood: drawn(drawing), Vars: [][]int{{1, 2}}}
				own.Rows = []api.Row{{Ins: make([]int, n), Out: c.out}}
				own.Rows[0].Ins[place] = c.element
				for at := range n {
					want := decision{in: make([]int, n)}
					want.in[at] = 1
					if (place == centre) == (at == centre) {
						want.out, want.decides = c.state, true
					}
					checkDecisions(t, own, []decision{want})
				}
			}
		}
	}
}

// P11.2: with SymPermute, 400 rows of nine variables, each of which has all states but one, so that 9! orders are no way to examine
// them.
func TestMatchManyOrders(t *testing.T) {
	for _, drawing := range []string{named["moore"], nine} {
		own := api.Table{States: 8, Sym: api.SymPermute, Hood: drawn(drawing)}
		own.Vars = append(slices.Repeat([][]int{{0, 1, 2, 3, 4, 5, 6}}, 9), slices.Repeat([][]int{{0, 1, 2, 3, 4, 5, 6, 7}}, 9)...)
		own.Rows = slices.Repeat([]api.Row{row(0, -1, -2, -3, -4, -5, -6, -7, -8, -9)}, api.MaxRows-1)
		own.Rows = append(own.Rows, row(-9, -10, -2, -3, -4, -5, -6, -7, -8, -9))
		centre := slices.Index(own.Hood, api.Point{})
		for place := range 9 {
			in := []int{0, 1, 2, 3, 4, 5, 6, 1, 2}
			in[place] = 7
			// The last row decides if its first element may meet the state 7, and its last one is then the least of the others.
			least := 7
			for i, s := range in {
				if i != centre {
					least = min(least, s)
				}
			}
			want := decision{in, least, true}
			if place == centre {
				want = decision{in: in}
			}
			if got, is := ruletable.Match(own, api.MaxRows-1, in); got != want.out || is != want.decides {
				t.Errorf("Match of %v is %d and %v, not %d and %v", in, got, is, want.out, want.decides)
			}
			expected := want.out
			if !want.decides {
				expected = 7
			}
			if got, e := ruletable.Next(own, in); got != expected || e != api.OK {
				t.Errorf("Next of %v is %d and the error %d, not %d", in, got, e, expected)
			}
		}
	}
}

// P11.2: indices of rows.
func TestMatchIndices(t *testing.T) {
	own := tableOf(t, "states 4", "hood line", "symmetry none", "var a 0 1", "a 0 0 -> 3", "1 0 0 -> 2", "0 0 a -> 1")
	for _, i := range append([]int{len(own.Rows) - 1, len(own.Rows), len(own.Rows) + 1, -len(own.Rows)}, ints...) {
		want, is := []int{3, 0, 1}, i >= 0 && i < 3 && i != 1
		state, decides := ruletable.Match(own, i, []int{0, 0, 0})
		if decides != is || is && state != want[i] || !is && state != 0 {
			t.Errorf("Match of the row %d is %d and %v", i, state, decides)
		}
		checkMatch(t, own, i, []int{0, 0, 0})
		checkMatch(t, own, i, []int{1, 0, 0})
		empty := plain(named["line"])
		checkMatch(t, empty, i, []int{0, 0, 0})
		checkMatch(t, api.Table{}, i, nil)
	}
}

// P11.2: lists that are too short or too long, or have an element that is no state of the table.
func TestNextStates(t *testing.T) {
	for _, c := range permitted {
		n := len(drawn(c.drawing))
		for _, sym := range c.syms {
			own := plain(c.drawing)
			own.Sym = sym
			own.Vars = [][]int{{0, 1, 2}}
			own.Rows = []api.Row{{Ins: slices.Repeat([]int{-1}, n), Out: 2}}
			for length := range n + 3 {
				in := make([]int, length)
				got, e := ruletable.Next(own, in)
				if length == n && (got != 2 || e != api.OK) || length != n && (got != 0 || e != api.ErrArg) {
					t.Errorf("Next(%s, %v) is %d and the error %d", show(own), in, got, e)
				}
				checkAll(t, own, in)
			}
			checkAll(t, own, nil)
			for place := range n {
				for _, s := range ints {
					in := make([]int, n)
					in[place] = s
					if got, e := ruletable.Next(own, in); (s < 0 || s > 2) && (got != 0 || e != api.ErrState) {
						t.Errorf("Next(%s, %v) is %d and the error %d", show(own), in, got, e)
					}
					checkAll(t, own, in)
				}
			}
		}
	}
}

// P11.2: the states of a table are not those of any table.
func TestNextStatesOfTable(t *testing.T) {
	for states := 2; states <= api.MaxStates; states++ {
		own := plain(named["line"])
		own.States = states
		own.Rows = []api.Row{row(1, 0, 0, 0)}
		for s := range 10 {
			want := api.OK
			if s >= states {
				want = api.ErrState
			}
			if _, e := ruletable.Next(own, []int{0, s, 0}); e != want {
				t.Errorf("with %d states the error of the state %d is %d", states, s, e)
			}
			checkAll(t, own, []int{s, 0, 0})
			checkAll(t, own, []int{0, 0, s})
		}
	}
}

// someInvalid returns tables, each of which is not valid by one condition, and has a row that would decide for three zeros.
func someInvalid(t *testing.T) []api.Table {
	valid := tableOf(t, "states 3", "hood line", "symmetry none", "var a 0 1", "a 0 0 -> a", "0 0 0 -> 1")
	var list []api.Table
	change := func(how func(own *api.Table)) {
		own := laidOut(valid)
		how(&own)
		list = append(list, own)
	}
	change(func(own *api.Table) { own.States = 1 })
	change(func(own *api.Table) { own.States = 9 })
	change(func(own *api.Table) { own.States = math.MaxInt })
	change(func(own *api.Table) { own.States = math.MinInt })
	for _, sym := range []int{-1, 1, 2, 4, math.MinInt, math.MaxInt} {
		change(func(own *api.Table) { own.Sym = sym })
	}
	change(func(own *api.Table) { own.Hood = nil })
	change(func(own *api.Table) { own.Hood[0].X = -3 })
	change(func(own *api.Table) { own.Hood[0] = own.Hood[1] })
	change(func(own *api.Table) { slices.Reverse(own.Hood) })
	change(func(own *api.Table) { own.Hood[2].X = math.MaxInt })
	for _, states := range [][]int{nil, {}, {1, 0}, {0, 0}, {0, 3}, {-1, 0}, {0, math.MaxInt}} {
		change(func(own *api.Table) { own.Vars[0] = states })
		change(func(own *api.Table) { own.Vars = append(own.Vars, states) })
	}
	change(func(own *api.Table) { own.Vars = nil })
	change(func(own *api.Table) { own.Vars = slices.Repeat(own.Vars, 41) })
	change(func(own *api.Table) { own.Rows = slices.Repeat(own.Rows, 201) })
	for _, ins := range [][]int{nil, {0, 0}, {0, 0, 0, 0}, {0, 0, 3}, {-2, 0, 0}, {math.MinInt, 0, 0}, {0, 0, math.MaxInt}} {
		change(func(own *api.Table) { own.Rows[1].Ins = ins })
		change(func(own *api.Table) { own.Rows = append(own.Rows, api.Row{Ins: ins}) })
	}
	for _, out := range []int{-1, -2, 3, math.MinInt, math.MaxInt} {
		change(func(own *api.Table) { own.Rows[1].Out = out })
	}
	return append(list, api.Table{})
}

// P11.2: tables that are not valid, also if another argument is wrong.
func TestNextInvalidTables(t *testing.T) {
	for _, own := range someInvalid(t) {
		if ruletable.Right(own) {
			t.Errorf("Right(%s) is true", show(own))
		}
		for _, in := range [][]int{{0, 0, 0}, nil, {}, {0}, {0, 0}, {0, 0, 0, 0}, {0, 0, 3}, {-1, 0, 0}, {9}, {math.MinInt, 0, math.MaxInt}} {
			if got, e := ruletable.Next(own, in); got != 0 || e != api.ErrArg {
				t.Errorf("Next(%s, %v) is %d and the error %d", show(own), in, got, e)
			}
			for _, i := range []int{0, 1, 2, -1, math.MaxInt} {
				if got, is := ruletable.Match(own, i, in); got != 0 || is {
					t.Errorf("Match(%s, %d, %v) is %d and %v", show(own), i, in, got, is)
				}
			}
			checkNext(t, own, in)
		}
	}
}

// P11.2: the length of the list comes before its elements.
func TestNextOrderOfErrors(t *testing.T) {
	own := tableOf(t, "states 2", "hood line", "symmetry none", "0 0 0 -> 1")
	for _, in := range [][]int{{2}, {2, 2}, {-1, 0}, {0, 0, 0, 2}, {2, 0, 0, 0}, {math.MaxInt}, {-1, -1, -1, -1, -1}} {
		if got, e := ruletable.Next(own, in); got != 0 || e != api.ErrArg {
			t.Errorf("Next of %v is %d and the error %d", in, got, e)
		}
	}
}

// P11.2: if no row decides, the state of the centre, wherever it is in the neighbourhood, and 0 if there is none.
func TestNextWithoutDecision(t *testing.T) {
	for _, c := range permitted {
		l := drawn(c.drawing)
		centre := slices.Index(l, api.Point{})
		for _, sym := range c.syms {
			for _, rows := range [][]api.Row{nil, {{Ins: slices.Repeat([]int{7}, len(l)), Out: 5}}} {
				own := api.Table{States: 8, Sym: sym, Hood: l, Rows: rows}
				for s := range 7 {
					in := slices.Repeat([]int{6 - s}, len(l))
					want := 0
					if centre >= 0 {
						in[centre] = s
						want = s
					}
					if got, e := ruletable.Next(own, in); got != want || e != api.OK {
						t.Errorf("Next(%s, %v) is %d and the error %d, not %d", show(own), in, got, e, want)
					}
				}
			}
		}
	}
	for _, drawing := range []string{first, last} {
		own := plain(drawing)
		centre := slices.Index(own.Hood, api.Point{})
		for _, in := range everyState(3, len(own.Hood)) {
			if got, e := ruletable.Next(own, in); got != in[centre] || e != api.OK {
				t.Errorf("Next(%s, %v) is %d and the error %d", show(own), in, got, e)
			}
		}
	}
}

// P11.2: the first row that decides counts, whatever later ones lead to, and also if its new state is the least one or that of the
// centre.
func TestNextFirstRow(t *testing.T) {
	for _, c := range permitted {
		n := len(drawn(c.drawing))
		for _, sym := range c.syms {
			own := api.Table{States: 8, Sym: sym, Hood: drawn(c.drawing), Vars: [][]int{{0, 1, 2, 3, 4, 5, 6, 7}}}
			for _, out := range []int{6, 0, 7, 3} {
				own.Rows = append(own.Rows, api.Row{Ins: slices.Repeat([]int{out}, n), Out: 7 - out}, api.Row{Ins: slices.Repeat([]int{out}, n), Out: out})
			}
			own.Rows = append(own.Rows, api.Row{Ins: slices.Repeat([]int{-1}, n), Out: 1}, api.Row{Ins: slices.Repeat([]int{-1}, n), Out: 2})
			for s, want := range []int{7, 1, 1, 4, 1, 1, 1, 0} {
				in := slices.Repeat([]int{s}, n)
				if got, e := ruletable.Next(own, in); got != want || e != api.OK {
					t.Errorf("Next(%s, %v) is %d and the error %d, not %d", show(own), in, got, e, want)
				}
				checkAll(t, own, in)
			}
		}
	}
}

// P11.2: the largest tables: only the last row decides.
func TestNextLargest(t *testing.T) {
	own := api.Table{States: 8, Sym: api.SymReflect, Hood: drawn(square)}
	for v := range api.MaxVars {
		own.Vars = append(own.Vars, []int{v % 8})
	}
	for i := range api.MaxRows {
		ins := slices.Repeat([]int{-1 - i%api.MaxVars}, 25)
		ins[0] = 7 - i%8
		own.Rows = append(own.Rows, api.Row{Ins: ins, Out: i % 7})
	}
	own.Rows[api.MaxRows-1].Ins[0] = -api.MaxVars
	in := slices.Repeat([]int{7}, 25)
	if got, e := ruletable.Next(own, in); got != (api.MaxRows-1)%7 || e != api.OK {
		t.Errorf("Next is %d and the error %d", got, e)
	}
	for _, i := range []int{0, api.MaxRows - 1, api.MaxRows} {
		checkMatch(t, own, i, in)
	}
}

// P11.2: results depend neither on calls before nor on arguments that have changed since.
func TestNextKeepsNothing(t *testing.T) {
	first := tableOf(t, "states 3", "hood line", "symmetry permute", "var a 1 2", "a 0 0 -> a")
	second := laidOut(first)
	in := []int{0, 0, 2}
	for range 3 {
		if got, e := ruletable.Next(second, in); got != 2 || e != api.OK {
			t.Errorf("Next is %d and the error %d", got, e)
		}
		second.Rows[0].Out = 1
		if got, e := ruletable.Next(second, in); got != 1 || e != api.OK {
			t.Errorf("Next is %d and the error %d", got, e)
		}
		second.Vars[0][1] = 1
		if got, e := ruletable.Next(second, in); got != 0 || e != api.ErrArg {
			t.Errorf("Next is %d and the error %d", got, e)
		}
		second.Vars[0] = []int{1}
		if got, is := ruletable.Match(second, 0, in); got != 0 || is {
			t.Errorf("Match is %d and %v", got, is)
		}
		in[2] = 1
		if got, is := ruletable.Match(second, 0, in); got != 1 || !is {
			t.Errorf("Match is %d and %v", got, is)
		}
		in[2] = 2
		second = laidOut(first)
	}
}

// P11.5: Next has the same result for states that a symmetry of the table turns, or exchanges.
func TestNextSymmetry(t *testing.T) {
	rng := rand.New(rand.NewSource(116))
	for _, c := range permitted {
		l := drawn(c.drawing)
		for _, sym := range c.syms[1:] {
			for range 60 {
				own := randomTable(rng, c.drawing, sym, 2+rng.Intn(7), rng.Intn(5), 1+rng.Intn(6))
				in := likeRow(rng, own)
				want, e := ruletable.Next(own, in)
				if e != api.OK {
					t.Fatalf("Next(%s, %v) has the error %d", show(own), in, e)
				}
				for _, other := range moved(rng, l, sym, in) {
					if got, e := ruletable.Next(own, other); got != want || e != api.OK {
						t.Errorf("Next(%s, %v) is %d and the error %d, but %d for %v", show(own), other, got, e, want, in)
					}
					checkNext(t, own, other)
				}
			}
		}
	}
}

// moved returns states that a kind of symmetry turns, or exchanges.
func moved(rng *rand.Rand, l []api.Point, sym int, in []int) [][]int {
	var list [][]int
	if sym != 3 {
		for _, k := range turnsOf(sym) {
			list = append(list, turnedRow(l, k, in))
		}
		return list
	}
	centre := slices.Index(l, api.Point{})
	for range 5 {
		other := slices.Clone(in)
		rng.Shuffle(len(in), func(i, j int) {
			if i != centre && j != centre {
				other[i], other[j] = other[j], other[i]
			}
		})
		list = append(list, other)
	}
	return list
}

// P11.5: each symmetry of a table, and each pair of positions that are exchanged, for every list of states.
func TestNextSymmetryOfEveryState(t *testing.T) {
	for sym := 1; sym <= 3; sym++ {
		own := tableOf(t, "states 3", "hood neumann", "symmetry "+symWords[sym], "var a 1 2", "var b 0 2", "a b 0 0 1 -> a", "1 2 a b b -> b", "b a a 0 b -> 1")
		for _, in := range everyState(3, 5) {
			want, _ := ruletable.Next(own, in)
			var others [][]int
			if sym < 3 {
				for _, k := range turnsOf(sym) {
					others = append(others, turnedRow(own.Hood, k, in))
				}
			}
			for _, i := range []int{0, 1, 3, 4} {
				for _, j := range []int{0, 1, 3, 4} {
					if sym == 3 {
						other := slices.Clone(in)
						other[i], other[j] = other[j], other[i]
						others = append(others, other)
					}
				}
			}
			for _, other := range others {
				if got, e := ruletable.Next(own, other); got != want || e != api.OK {
					t.Errorf("Next(%s, %v) is %d and the error %d, but %d for %v", show(own), other, got, e, want, in)
				}
			}
		}
	}
}
