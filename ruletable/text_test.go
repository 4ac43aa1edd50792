package ruletable_test

import (
	"math/rand"
	"slices"
	"strings"
	"testing"

	"cellular/api"
	"cellular/ruletable"
)

// checkText compares Text with the expected result and with the model, and checks that it changes nothing.
func checkText(t *testing.T, own api.Table, want string) {
	t.Helper()
	if s := textModel(own); s != want {
		t.Errorf("the model has the text %q of %s, not %q", begin(s), show(own), begin(want))
	}
	unchanged(t, own, nil, func(own api.Table, _ []int) {
		if got := ruletable.Text(own); got != want {
			t.Errorf("Text(%s) is %q, not %q", show(own), begin(got), begin(want))
		}
	})
}

// checkRound checks that Parse of Text of a table returns its fields.
func checkRound(t *testing.T, own api.Table) {
	t.Helper()
	s := ruletable.Text(own)
	got, line, e := ruletable.Parse(s)
	switch {
	case s == "" || line != 0 || e != api.OK:
		t.Errorf("Parse(%q) of %s has the error %d in line %d", begin(s), show(own), e, line)
	case got.States != own.States || got.Sym != own.Sym:
		t.Errorf("Parse(%q) has %d states and the symmetry %d, not %d and %d", begin(s), got.States, got.Sym, own.States, own.Sym)
	case !slices.Equal(got.Hood, own.Hood):
		t.Errorf("Parse(%q) has the neighbourhood %v, not %v", begin(s), got.Hood, own.Hood)
	case !slices.EqualFunc(got.Vars, own.Vars, slices.Equal):
		t.Errorf("Parse(%q) has the variables %v, not %v", begin(s), got.Vars, own.Vars)
	case !slices.EqualFunc(got.Rows, own.Rows, func(a, b api.Row) bool { return slices.Equal(a.Ins, b.Ins) && a.Out == b.Out }):
		t.Errorf("Parse(%q) has the rows %v, not %v", begin(s), got.Rows, own.Rows)
	}
	if again := ruletable.Text(got); again != s {
		t.Errorf("Text of Parse(%q) is %q", begin(s), begin(again))
	}
}

// P11.3: the canonical texts of the examples.
func TestTextExamples(t *testing.T) {
	checkText(t, tableOf(t, "states 2", "hood line", "symmetry none", "var a 0 1", "1 a 0 -> 1", "a 1 a -> 0"),
		"states 2\nhood line\nsymmetry none\nvar v0 0 1\n1 v0 0 -> 1\nv0 1 v0 -> 0\n")
	checkText(t, tableOf(t, "states 2", "hood neumann", "symmetry rotate", "1 0 0 0 0 -> 1"),
		"states 2\nhood neumann\nsymmetry rotate\n1 0 0 0 0 -> 1\n")
	checkText(t, tableOf(t, "# long", "\tstates  8 ", "hood\thex", "", " symmetry permute#", "var Y 7", "var X 0 1 2", "X 6 X 1 0 Y Y  ->\tY # last"),
		"states 8\nhood hex\nsymmetry permute\nvar v0 7\nvar v1 0 1 2\nv1 6 v1 1 0 v0 v0 -> v0\n")
}

// P11.3: neighbourhoods with and without a name, with each kind of symmetry that they permit, without variables and rows.
func TestTextHoods(t *testing.T) {
	for _, c := range permitted {
		for _, sym := range c.syms {
			for states := 2; states <= api.MaxStates; states++ {
				own := api.Table{States: states, Sym: sym, Hood: drawn(c.drawing)}
				want := ""
				for _, word := range hoodWords {
					if c.drawing == named[word] {
						want = lines("states "+wordOf(states), "hood "+word, "symmetry "+symWords[sym])
					}
				}
				checkText(t, own, want)
				own.Vars, own.Rows = [][]int{}, []api.Row{}
				checkText(t, own, want)
			}
		}
	}
}

// P11.3: neighbourhoods that differ from those with a name in one position only.
func TestTextOtherHoods(t *testing.T) {
	for _, word := range hoodWords {
		for _, p := range drawn(square) {
			l := drawn(named[word])
			if i := slices.Index(l, p); i >= 0 {
				l = slices.Delete(l, i, i+1)
			} else {
				l = slices.DeleteFunc(drawn(square), func(q api.Point) bool { return q != p && !slices.Contains(l, q) })
			}
			checkText(t, api.Table{States: 2, Hood: l}, "")
		}
		l := drawn(named[word])
		slices.Reverse(l)
		checkText(t, api.Table{States: 2, Hood: l}, "")
	}
}

// P11.3: variables alone, rows alone, and the names of all variables.
func TestTextParts(t *testing.T) {
	own := plain(named["line"])
	text := lines(head...)
	own.Vars = [][]int{{0}, {1, 2}, {0, 1, 2}, {0}}
	checkText(t, own, text+lines("var v0 0", "var v1 1 2", "var v2 0 1 2", "var v3 0"))
	own.Rows = []api.Row{row(-3, -3, 2, -1), row(1, 0, 0, 0)}
	checkText(t, own, text+lines("var v0 0", "var v1 1 2", "var v2 0 1 2", "var v3 0", "v2 2 v0 -> v2", "0 0 0 -> 1"))
	own.Vars = nil
	own.Rows = []api.Row{row(2, 0, 1, 2), row(2, 0, 1, 2), row(0, 2, 2, 2)}
	checkText(t, own, text+lines("0 1 2 -> 2", "0 1 2 -> 2", "2 2 2 -> 0"))
	own.Rows = nil
	for v := range api.MaxVars {
		own.Vars = append(own.Vars, []int{v % 3})
		text += "var " + wordOf(-1-v) + " " + wordOf(v%3) + "\n"
	}
	checkText(t, own, text)
	own.Rows = []api.Row{row(-40, -9, -10, -40), row(-11, -11, -1, -2)}
	checkText(t, own, text+lines("v8 v9 v39 -> v39", "v10 v0 v1 -> v10"))
}

// P11.3: tables that are not valid have no text.
func TestTextInvalid(t *testing.T) {
	for _, own := range someInvalid(t) {
		checkText(t, own, "")
	}
	for _, n := range ints {
		own := plain(named["hex"])
		if n != 0 && n != 3 {
			own.Sym = n
			checkText(t, own, "")
		}
		own = plain(named["line"])
		if n < 2 || n > 8 {
			own.States = n
			checkText(t, own, "")
		}
		own = plain(named["line"])
		if n < 0 || n > 2 {
			own.Rows = []api.Row{row(n, 0, 0, 0)}
			checkText(t, own, "")
			own.Rows = []api.Row{row(0, 0, 0, n)}
			checkText(t, own, "")
			own.Vars, own.Rows = [][]int{{n}}, nil
			checkText(t, own, "")
		}
	}
	rng := rand.New(rand.NewSource(119))
	for range 300 {
		for _, word := range hoodWords {
			own := broken(rng, randomTable(rng, named[word], []int{0, 3}[rng.Intn(2)], 2+rng.Intn(7), 1+rng.Intn(6), 1+rng.Intn(6)))
			checkText(t, own, textModel(own))
		}
	}
}

// largest returns the valid table with the longest text.
func largest(sym int) api.Table {
	own := api.Table{States: api.MaxStates, Sym: sym, Hood: drawn(named["moore"])}
	own.Vars = slices.Repeat([][]int{{0, 1, 2, 3, 4, 5, 6, 7}}, api.MaxVars)
	for i := range api.MaxRows {
		v := -11 - i%30
		own.Rows = append(own.Rows, row(v, v, -40, -39, -38, -37, -36, -35, -34, -33))
	}
	return own
}

// P11.3 and P11.4: the largest tables.
func TestTextLargest(t *testing.T) {
	for sym := range 4 {
		own := largest(sym)
		checkText(t, own, textModel(own))
		checkRound(t, own)
		if s := ruletable.Text(own); len(s) > api.MaxBytes || strings.Count(s, "\n") != 3+api.MaxVars+api.MaxRows {
			t.Errorf("the text has %d bytes", len(s))
		}
		own.Rows = append(own.Rows, own.Rows[0])
		checkText(t, own, "")
		own = largest(sym)
		own.Vars = append(own.Vars, []int{0})
		checkText(t, own, "")
	}
}

// P11.4: valid tables of each neighbourhood with a name, with each kind of symmetry that it permits.
func TestRound(t *testing.T) {
	rng := rand.New(rand.NewSource(120))
	for _, word := range hoodWords {
		for sym := range 4 {
			if !permitsModel(drawn(named[word]), sym) {
				continue
			}
			for states := 2; states <= api.MaxStates; states++ {
				checkRound(t, api.Table{States: states, Sym: sym, Hood: drawn(named[word])})
				for range 20 {
					own := randomTable(rng, named[word], sym, states, rng.Intn(api.MaxVars+1), rng.Intn(20))
					checkText(t, own, textModel(own))
					checkRound(t, own)
				}
			}
			checkRound(t, randomTable(rng, named[word], sym, 8, api.MaxVars, api.MaxRows))
			checkRound(t, randomTable(rng, named[word], sym, 2, 0, api.MaxRows))
			checkRound(t, randomTable(rng, named[word], sym, 3, api.MaxVars, 0))
		}
	}
}
