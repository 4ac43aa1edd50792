package hood_test

import (
	"slices"
	"testing"

	"cellular/api"
	"cellular/hood"
)

// all are all eight symmetries.
var all = []int{0, 1, 2, 3, 4, 5, 6, 7}

// P7.2
func TestUsualExamples(t *testing.T) {
	for _, c := range []struct {
		name      string
		got, want []api.Point
	}{
		{"Moore(0)", hood.Moore(0), []api.Point{{}}},
		{"Neumann(0)", hood.Neumann(0), []api.Point{{}}},
		{"Neumann(1)", hood.Neumann(1), []api.Point{{Y: -1}, {X: -1}, {}, {X: 1}, {Y: 1}}},
		{"Moore(1)", hood.Moore(1), []api.Point{
			{X: -1, Y: -1}, {Y: -1}, {X: 1, Y: -1}, {X: -1}, {}, {X: 1}, {X: -1, Y: 1}, {Y: 1}, {X: 1, Y: 1},
		}},
		{"Neumann(2)", hood.Neumann(2), []api.Point{
			{Y: -2}, {X: -1, Y: -1}, {Y: -1}, {X: 1, Y: -1}, {X: -2}, {X: -1}, {}, {X: 1}, {X: 2}, {X: -1, Y: 1}, {Y: 1}, {X: 1, Y: 1}, {Y: 2},
		}},
		{"Moore(2)", hood.Moore(2), everyOffset()},
		{"Hex()", hood.Hex(), []api.Point{{X: -1, Y: -1}, {Y: -1}, {X: -1}, {}, {X: 1}, {Y: 1}, {X: 1, Y: 1}}},
	} {
		if !slices.Equal(c.got, c.want) {
			t.Errorf("%s is %v, not %v", c.name, c.got, c.want)
		}
	}
}

// P7.2
func TestUsualNumbers(t *testing.T) {
	for r, n := range [][2]int{{1, 1}, {9, 5}, {25, 13}} {
		if m, d := len(hood.Moore(r)), len(hood.Neumann(r)); m != n[0] || d != n[1] {
			t.Errorf("Moore(%d) has %d offsets, and Neumann(%d) has %d", r, m, r, d)
		}
	}
}

// P7.2: all radii, also at the limits of int.
func TestUsualAllRadii(t *testing.T) {
	for _, r := range radii {
		if got := hood.Moore(r); !slices.Equal(got, mooreModel(r)) {
			t.Errorf("Moore(%d) is %v", r, got)
		}
		if got := hood.Neumann(r); !slices.Equal(got, neumannModel(r)) {
			t.Errorf("Neumann(%d) is %v", r, got)
		}
		if r >= 0 && r <= 2 {
			continue
		}
		if m, d := hood.Moore(r), hood.Neumann(r); len(m) != 0 || len(d) != 0 {
			t.Errorf("Moore(%d) is %v, and Neumann(%d) is %v", r, m, r, d)
		}
	}
}

// spoil changes the offsets of a list, and what lies behind them in memory.
func spoil(l []api.Point) {
	l = append(l, api.Point{X: 5, Y: 5})
	for i := range l {
		l[i] = api.Point{X: 9, Y: -9}
	}
	slices.Reverse(l)
}

// P7.2: a result that is changed leaves the next ones as they have to be (Rules for all calls, 5).
func TestUsualResultsAreNew(t *testing.T) {
	changes := []func(){func() { spoil(hood.Hex()) }}
	for r := range 3 {
		changes = append(changes, func() { spoil(hood.Moore(r)) }, func() { spoil(hood.Neumann(r)) })
	}
	for i, change := range changes {
		change()
		for r := range 3 {
			if got := hood.Moore(r); !slices.Equal(got, mooreModel(r)) {
				t.Errorf("after the change %d, Moore(%d) is %v", i, r, got)
			}
			if got := hood.Neumann(r); !slices.Equal(got, neumannModel(r)) {
				t.Errorf("after the change %d, Neumann(%d) is %v", i, r, got)
			}
		}
		if got := hood.Hex(); !slices.Equal(got, hexModel()) {
			t.Errorf("after the change %d, Hex() is %v", i, got)
		}
	}
}

// P7.2: two results share no memory.
func TestUsualResultsAreApart(t *testing.T) {
	for _, call := range []func() []api.Point{
		func() []api.Point { return hood.Moore(1) }, func() []api.Point { return hood.Neumann(2) }, hood.Hex,
	} {
		first, second := call(), call()
		before := slices.Clone(first)
		spoil(second)
		if !slices.Equal(first, before) {
			t.Errorf("a change of the next result changes %v to %v", before, first)
		}
	}
}

// P7.6
func TestUsualProperties(t *testing.T) {
	for r := range 3 {
		for _, l := range [][]api.Point{hood.Moore(r), hood.Neumann(r)} {
			if got := hood.Syms(l); !hood.Right(l) || hood.Radius(l) != r || !slices.Equal(got, all) {
				t.Errorf("%v has the radius %d and the symmetries %v", l, hood.Radius(l), got)
			}
			if i := hood.Centre(l); i != len(l)/2 || l[i] != (api.Point{}) {
				t.Errorf("the centre of %v is %d", l, i)
			}
		}
		square := hood.Moore(r)
		for _, p := range hood.Neumann(r) {
			if !slices.Contains(square, p) {
				t.Errorf("Moore(%d) does not contain %v", r, p)
			}
		}
	}
	if l := hood.Hex(); !hood.Right(l) || hood.Radius(l) != 1 || hood.Centre(l) != 3 || !slices.Equal(hood.Syms(l), []int{0, 2, 5, 7}) {
		t.Errorf("Hex() has the radius %d, the centre %d and the symmetries %v", hood.Radius(l), hood.Centre(l), hood.Syms(l))
	}
}
