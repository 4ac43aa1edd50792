package ruletable_test

import (
	"math"
	"math/rand"
	"slices"
	"testing"

	"cellular/api"
	"cellular/ruletable"
)

// checkRight compares Right with the expected result and with the model, and checks that it changes nothing.
func checkRight(t *testing.T, own api.Table, want bool) {
	t.Helper()
	if is := rightModel(own); is != want {
		t.Errorf("the model tells %v of %s", is, show(own))
	}
	unchanged(t, own, nil, func(own api.Table, _ []int) {
		if got := ruletable.Right(own); got != want {
			t.Errorf("Right(%s) is %v", show(own), got)
		}
	})
}

// plain returns a valid table without variables and rows.
func plain(drawing string) api.Table {
	return api.Table{States: 3, Hood: drawn(drawing)}
}

// P11.1: the tables of the examples, and those without variables and rows.
func TestRightExamples(t *testing.T) {
	checkRight(t, api.Table{}, false)
	for _, c := range permitted {
		checkRight(t, plain(c.drawing), true)
	}
	line := plain(named["line"])
	line.Vars = [][]int{{0, 1}}
	line.Rows = []api.Row{row(1, 1, -1, 0), row(0, -1, 1, -1)}
	checkRight(t, line, true)
	line.Vars, line.Rows = [][]int{}, []api.Row{}
	checkRight(t, line, true)
}

// P11.1: numbers of states.
func TestRightStates(t *testing.T) {
	for _, states := range ints {
		own := plain(named["neumann"])
		own.States = states
		checkRight(t, own, states >= 2 && states <= 8)
	}
	for _, states := range []int{math.MinInt, -1, 0, 1, api.MaxStates + 1, math.MaxInt} {
		own := plain(named["neumann"])
		own.States = states
		own.Vars = [][]int{{0}}
		own.Rows = []api.Row{row(0, 0, 0, 0, 0, -1)}
		checkRight(t, own, false)
		own.States = 2
		checkRight(t, own, true)
		own.States = api.MaxStates
		checkRight(t, own, true)
	}
}

// P11.1: neighbourhoods that are not valid, with each kind of symmetry.
func TestRightHood(t *testing.T) {
	whole := drawn(square)
	list := [][]api.Point{
		nil, {}, {{}, {}}, {{X: 1}, {X: -1}}, {{X: -1}, {X: -1}, {X: 1}}, {{Y: 1}, {}}, {{X: 1}, {X: 1}}, {{X: 3}}, {{X: -3}}, {{Y: 3}}, {{Y: -3}},
		{{Y: -3}, {X: -3}, {}, {X: 3}, {Y: 3}}, {{X: math.MinInt}, {}, {X: math.MaxInt}}, {{Y: math.MinInt}, {}, {Y: math.MaxInt}},
		append(slices.Clone(whole), api.Point{X: 2, Y: 2}), append(slices.Clone(whole), api.Point{X: -2, Y: 3}),
		append([]api.Point{{Y: -3}}, whole...), slices.Repeat(whole, 2), make([]api.Point, 26), make([]api.Point, 10000),
	}
	for _, c := range permitted {
		down := drawn(c.drawing)
		slices.Reverse(down)
		if len(down) > 1 {
			list = append(list, down)
		}
		for i := range down {
			changed := drawn(c.drawing)
			changed[i].X += 5
			list = append(list, changed, append(drawn(c.drawing)[:i+1], drawn(c.drawing)[i:]...))
		}
	}
	for _, l := range list {
		for sym := range 4 {
			own := api.Table{States: 2, Sym: sym, Hood: l}
			checkRight(t, own, false)
			own.Rows = []api.Row{{Ins: make([]int, len(l))}}
			checkRight(t, own, false)
		}
	}
}

// P11.1: kinds of symmetries with neighbourhoods that permit them, and with others.
func TestRightSym(t *testing.T) {
	for _, c := range permitted {
		for _, sym := range ints {
			own := plain(c.drawing)
			own.Sym = sym
			checkRight(t, own, slices.Contains(c.syms, sym))
			own.Rows = []api.Row{{Ins: make([]int, len(own.Hood)), Out: 1}}
			checkRight(t, own, slices.Contains(c.syms, sym))
		}
	}
}

// P11.1: neighbourhoods that lack one position of symmetric ones, or have one more.
func TestRightSymOfChangedHoods(t *testing.T) {
	for _, c := range permitted {
		for _, p := range drawn(square) {
			own := plain(c.drawing)
			if i := slices.Index(own.Hood, p); i >= 0 {
				own.Hood = slices.Delete(own.Hood, i, i+1)
			} else {
				after := slices.DeleteFunc(drawn(square), func(q api.Point) bool { return q != p && !slices.Contains(own.Hood, q) })
				own.Hood = after
			}
			for sym := range 4 {
				own.Sym = sym
				checkRight(t, own, isHood(own.Hood) && permitsModel(own.Hood, sym))
			}
		}
	}
}

// P11.1: lists of the states of a variable, as the first, the last or the only one.
func TestRightVars(t *testing.T) {
	valid := [][]int{{0}, {1}, {2}, {0, 1}, {0, 2}, {1, 2}, {0, 1, 2}}
	invalid := [][]int{
		nil, {}, {1, 0}, {2, 0}, {2, 1, 0}, {0, 2, 1}, {1, 0, 2}, {0, 0}, {2, 2}, {0, 1, 1}, {0, 0, 1}, {0, 1, 0}, {-1}, {3}, {-1, 0}, {2, 3},
		{0, 1, 2, 3}, {-1, 0, 1}, {0, math.MaxInt}, {math.MinInt, 0}, {math.MinInt}, {math.MaxInt}, {256}, {1 << 32}, {0, 1 << 32},
		make([]int, 10000), {0, 3, 1}, {-1, 3},
	}
	for _, others := range [][][]int{{}, {{0}}, {{1, 2}, {0, 1, 2}, {0}}} {
		for _, l := range append(slices.Clone(valid), invalid...) {
			is := slices.ContainsFunc(valid, func(m []int) bool { return slices.Equal(l, m) })
			for place := range len(others) + 1 {
				own := plain(named["line"])
				own.Vars = slices.Insert(slices.Clone(others), place, l)
				checkRight(t, own, is)
				own.Rows = []api.Row{row(0, 0, 1, 0), row(-1, 0, -1, 2)}
				checkRight(t, own, is)
			}
		}
	}
}

// P11.1: a state is one of the table, not one of any table.
func TestRightVarsOfStates(t *testing.T) {
	for states := 2; states <= api.MaxStates; states++ {
		for last := range 10 {
			own := plain(named["line"])
			own.States = states
			own.Vars = [][]int{{0}, {last}}
			checkRight(t, own, last < states)
			own.Vars = [][]int{{0}}
			own.Rows = []api.Row{row(0, 0, 0, last)}
			checkRight(t, own, last < states)
			own.Rows = []api.Row{row(last, 0, 0, 0)}
			checkRight(t, own, last < states)
		}
	}
}

// P11.1: numbers of variables and of rows, at their limits and one beyond.
func TestRightNumbers(t *testing.T) {
	for vars := api.MaxVars - 2; vars <= api.MaxVars+2; vars++ {
		for rows := api.MaxRows - 2; rows <= api.MaxRows+2; rows++ {
			own := plain(named["line"])
			own.Vars = slices.Repeat([][]int{{0, 1}}, vars)
			own.Rows = slices.Repeat([]api.Row{row(0, 0, -1, 0)}, rows)
			checkRight(t, own, vars <= api.MaxVars && rows <= api.MaxRows)
		}
	}
	own := plain(named["line"])
	for _, n := range []int{1000, 1 << 16} {
		own.Vars, own.Rows = slices.Repeat([][]int{{0}}, n), nil
		checkRight(t, own, false)
		own.Vars, own.Rows = nil, slices.Repeat([]api.Row{row(0, 0, 1, 0)}, n)
		checkRight(t, own, false)
		own.Rows = make([]api.Row, n)
		checkRight(t, own, false)
	}
}

// P11.1: rows of each length, of which one is right, as the first, the last or the only one.
func TestRightLengths(t *testing.T) {
	for _, c := range permitted {
		n := len(drawn(c.drawing))
		for length := range n + 3 {
			for _, place := range []int{0, 1, 2} {
				own := plain(c.drawing)
				own.Rows = slices.Repeat([]api.Row{{Ins: make([]int, n)}}, 2)
				own.Rows = slices.Insert(own.Rows, place, api.Row{Ins: make([]int, length)})
				checkRight(t, own, length == n)
			}
		}
		own := plain(c.drawing)
		own.Rows = []api.Row{{}}
		checkRight(t, own, false)
	}
}

// P11.1: elements and new states: states, variables, and numbers that are neither, at each place of the first or the last row.
func TestRightElements(t *testing.T) {
	for _, vars := range []int{0, 1, 2, 39, 40} {
		for _, e := range ints {
			for place := range 4 {
				for _, last := range []int{0, 1} {
					own := plain(named["line"])
					own.Vars = slices.Repeat([][]int{{0, 2}}, vars)
					own.Rows = []api.Row{row(0, 0, 1, 2), row(0, 0, 1, 2)}
					changed := &own.Rows[last]
					if place < 3 {
						changed.Ins[place] = e
						checkRight(t, own, e >= -vars && e < 3)
						continue
					}
					changed.Out = e
					// There is no variable in the row.
					checkRight(t, own, e >= 0 && e < 3)
				}
			}
		}
	}
}

// P11.1: a new state is a variable only if it is an element of the same row.
func TestRightOut(t *testing.T) {
	own := plain(named["line"])
	own.Vars = slices.Repeat([][]int{{0, 1, 2}}, 3)
	for _, ins := range [][]int{{0, 1, 2}, {-1, 0, 0}, {0, -1, 0}, {0, 0, -1}, {-2, 1, 1}, {1, 1, -3}, {-1, -2, 0}, {-3, -1, -2}, {-1, -1, -1}} {
		for _, out := range append([]int{-4, -5}, ints...) {
			own.Rows = []api.Row{row(out, ins...)}
			is := out >= 0 && out < 3 || slices.Contains(ins, out)
			checkRight(t, own, is)
			own.Rows = []api.Row{row(-2, -1, -2, -3), row(out, ins...), row(0, -1, -2, -3)}
			checkRight(t, own, is)
		}
	}
}

// broken returns a table that differs from a valid one in one place.
func broken(rng *rand.Rand, t api.Table) api.Table {
	t = laidOut(t)
	n := []int{-1 - len(t.Vars), -len(t.Vars), -1, 0, 1, t.States - 1, t.States, ints[rng.Intn(len(ints))]}[rng.Intn(8)]
	switch r := &t.Rows[rng.Intn(len(t.Rows))]; rng.Intn(9) {
	case 0:
		t.States = rng.Intn(11)
	case 1:
		t.Sym = rng.Intn(6) - 1
	case 2:
		t.Hood[rng.Intn(len(t.Hood))] = api.Point{X: rng.Intn(7) - 3, Y: rng.Intn(7) - 3}
	case 3:
		states := t.Vars[rng.Intn(len(t.Vars))]
		states[rng.Intn(len(states))] = n
	case 4:
		t.Vars[rng.Intn(len(t.Vars))] = nil
	case 5:
		r.Ins[rng.Intn(len(r.Ins))] = n
	case 6:
		r.Ins = r.Ins[:rng.Intn(len(r.Ins)+1)]
	case 7:
		r.Out = n
	case 8:
		t.Vars = t.Vars[:rng.Intn(len(t.Vars)+1)]
	}
	return t
}

// P11.1: valid tables with random variables and rows, and others that differ in one place.
func TestRightRandom(t *testing.T) {
	rng := rand.New(rand.NewSource(111))
	for range 200 {
		for _, c := range permitted {
			sym := c.syms[rng.Intn(len(c.syms))]
			own := randomTable(rng, c.drawing, sym, 2+rng.Intn(7), 1+rng.Intn(6), 1+rng.Intn(6))
			checkRight(t, own, true)
			for range 4 {
				other := broken(rng, own)
				checkRight(t, other, rightModel(other))
			}
		}
	}
}
