package ruletable_test

import (
	"math"
	"math/rand"
	"slices"
	"testing"

	"cellular/api"
	"cellular/ruletable"
)

// checkSame compares Same with the expected result, in both orders, and checks that it changes nothing.
func checkSame(t *testing.T, a, b api.Table, want bool) {
	t.Helper()
	if sameModel(a, b) != want {
		t.Errorf("the model tells %v of %s and %s", !want, show(a), show(b))
	}
	unchanged(t, a, nil, func(a api.Table, _ []int) {
		unchanged(t, b, nil, func(b api.Table, _ []int) {
			if ruletable.Same(a, b) != want || ruletable.Same(b, a) != want {
				t.Errorf("Same(%s, %s) is not %v", show(a), show(b), want)
			}
		})
	})
}

// changes returns tables that differ from one, which has some of everything, in one number or in the length of one list.
func changes(own api.Table) []api.Table {
	var list []api.Table
	change := func(how func(own *api.Table)) {
		other := laidOut(own)
		how(&other)
		list = append(list, other)
	}
	for _, by := range []int{1, -1, 256, 1 << 32, math.MinInt} {
		change(func(own *api.Table) { own.States += by })
		change(func(own *api.Table) { own.Sym += by })
		for i := range own.Hood {
			change(func(own *api.Table) { own.Hood[i].X += by })
			change(func(own *api.Table) { own.Hood[i].Y += by })
		}
		for v := range own.Vars {
			for i := range own.Vars[v] {
				change(func(own *api.Table) { own.Vars[v][i] += by })
			}
		}
		for r := range own.Rows {
			change(func(own *api.Table) { own.Rows[r].Out += by })
			for i := range own.Rows[r].Ins {
				change(func(own *api.Table) { own.Rows[r].Ins[i] += by })
			}
		}
	}
	change(func(own *api.Table) { own.Hood = own.Hood[1:] })
	change(func(own *api.Table) { own.Hood = own.Hood[:len(own.Hood)-1] })
	change(func(own *api.Table) { own.Hood = append(own.Hood, api.Point{}) })
	change(func(own *api.Table) { own.Hood = nil })
	change(func(own *api.Table) { own.Vars = own.Vars[:len(own.Vars)-1] })
	change(func(own *api.Table) { own.Vars = append(own.Vars, nil) })
	change(func(own *api.Table) { own.Vars = append(own.Vars, []int{0}) })
	change(func(own *api.Table) { own.Vars = nil })
	change(func(own *api.Table) { own.Rows = own.Rows[:len(own.Rows)-1] })
	change(func(own *api.Table) { own.Rows = append(own.Rows, api.Row{}) })
	change(func(own *api.Table) { own.Rows = nil })
	for v := range own.Vars {
		change(func(own *api.Table) { own.Vars[v] = nil })
		change(func(own *api.Table) { own.Vars[v] = append(own.Vars[v], 0) })
		change(func(own *api.Table) { own.Vars[v] = own.Vars[v][:len(own.Vars[v])-1] })
	}
	for r := range own.Rows {
		change(func(own *api.Table) { own.Rows[r].Ins = nil })
		change(func(own *api.Table) { own.Rows[r].Ins = append(own.Rows[r].Ins, 0) })
		change(func(own *api.Table) { own.Rows[r].Ins = own.Rows[r].Ins[:len(own.Rows[r].Ins)-1] })
	}
	// The same numbers in another order, or in other lists.
	change(func(own *api.Table) { own.States, own.Sym = own.Sym, own.States })
	change(func(own *api.Table) { slices.Reverse(own.Hood) })
	change(func(own *api.Table) { slices.Reverse(own.Vars) })
	change(func(own *api.Table) { slices.Reverse(own.Vars[1]) })
	change(func(own *api.Table) { slices.Reverse(own.Rows) })
	change(func(own *api.Table) { slices.Reverse(own.Rows[0].Ins) })
	change(func(own *api.Table) { own.Rows[0].Out, own.Rows[1].Out = own.Rows[1].Out, own.Rows[0].Out })
	change(func(own *api.Table) { own.Vars = [][]int{{0, 1, 2}, {2}} })
	return list
}

// P11.1: tables that are equal, and others that differ in one number or in one length.
func TestSame(t *testing.T) {
	own := tableOf(t, "states 4", "hood line", "symmetry permute", "var a 0", "var b 1 2 3", "a 1 b -> b", "3 2 b -> 0")
	checkSame(t, own, own, true)
	checkSame(t, own, laidOut(own), true)
	list := changes(own)
	for i, other := range list {
		checkSame(t, own, other, false)
		checkSame(t, other, laidOut(other), true)
		for _, third := range list[:i] {
			checkSame(t, other, third, sameModel(other, third))
		}
	}
}

// P11.1: lists that are nil are equal to empty ones, at each depth.
func TestSameEmpty(t *testing.T) {
	none := api.Table{}
	empty := api.Table{Hood: []api.Point{}, Vars: [][]int{}, Rows: []api.Row{}}
	checkSame(t, none, none, true)
	checkSame(t, none, empty, true)
	checkSame(t, empty, empty, true)
	a := api.Table{States: 2, Vars: [][]int{nil, {}}, Rows: []api.Row{{}, {Ins: []int{}}}}
	b := api.Table{States: 2, Vars: [][]int{{}, nil}, Rows: []api.Row{{Ins: []int{}}, {}}}
	checkSame(t, a, b, true)
	checkSame(t, a, none, false)
	checkSame(t, api.Table{Vars: [][]int{nil}}, none, false)
	checkSame(t, api.Table{Rows: []api.Row{{}}}, none, false)
	checkSame(t, api.Table{Rows: []api.Row{{}}}, api.Table{Rows: []api.Row{{}, {}}}, false)
	checkSame(t, api.Table{Hood: []api.Point{{}}}, none, false)
	for _, c := range permitted {
		checkSame(t, plain(c.drawing), api.Table{States: 3, Hood: drawn(c.drawing), Vars: [][]int{}, Rows: []api.Row{}}, true)
		checkSame(t, plain(c.drawing), none, false)
	}
}

// P11.1: tables that are not valid are equal to themselves only.
func TestSameInvalid(t *testing.T) {
	list := someInvalid(t)
	for _, n := range ints {
		list = append(list, api.Table{States: n}, api.Table{Sym: n}, api.Table{Hood: []api.Point{{X: n, Y: -n}}}, api.Table{Vars: [][]int{{n}}},
			api.Table{Rows: []api.Row{row(n)}}, api.Table{Rows: []api.Row{row(0, n, n)}})
	}
	list = append(list, api.Table{Hood: make([]api.Point, 5000)}, api.Table{Vars: make([][]int, 5000)}, api.Table{Rows: make([]api.Row, 5000)})
	for i, a := range list {
		checkSame(t, a, laidOut(a), true)
		for _, b := range list[:i] {
			if got, want := ruletable.Same(a, b), sameModel(a, b); got != want || ruletable.Same(b, a) != want {
				t.Errorf("Same(%s, %s) is %v", show(a), show(b), got)
			}
		}
	}
}

// P11.1: random tables, which are equal just if all their numbers are.
func TestSameRandom(t *testing.T) {
	rng := rand.New(rand.NewSource(121))
	for range 500 {
		a := randomTable(rng, named["line"], api.SymNone, 2, 1, 1)
		b := randomTable(rng, named["line"], api.SymNone, 2, 1, 1)
		checkSame(t, a, b, sameModel(a, b))
		c := broken(rng, a)
		checkSame(t, a, c, sameModel(a, c))
	}
}
