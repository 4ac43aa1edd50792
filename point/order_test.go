package point_test

import (
	"math"
	"math/rand"
	"slices"
	"testing"

	"cellular/api"
	"cellular/point"
)

// everyPoint returns the positions of which the coordinates are among those of allInts.
func everyPoint() []api.Point {
	var list []api.Point
	for _, x := range allInts {
		for _, y := range allInts {
			list = append(list, api.Point{X: x, Y: y})
		}
	}
	return list
}

// sortedOf returns the positions of a list in order, each once, by inserting one after the other.
func sortedOf(l []api.Point) []api.Point {
	var list []api.Point
	for _, p := range l {
		i := 0
		for i < len(list) && comesBefore(list[i], p) {
			i++
		}
		if i == len(list) || list[i] != p {
			list = slices.Insert(list, i, p)
		}
	}
	return list
}

// P3.1
func TestCompareExamples(t *testing.T) {
	for _, c := range []struct {
		a, b api.Point
		want int
	}{
		{api.Point{}, api.Point{}, 0},
		{api.Point{X: 1, Y: 2}, api.Point{X: 1, Y: 2}, 0},
		{api.Point{X: 1}, api.Point{X: 2}, -1},
		{api.Point{X: 2}, api.Point{X: 1}, 1},
		{api.Point{X: 9, Y: 1}, api.Point{X: -9, Y: 2}, -1},
		{api.Point{X: -9, Y: 2}, api.Point{X: 9, Y: 1}, 1},
		{api.Point{X: math.MinInt}, api.Point{X: math.MaxInt}, -1},
		{api.Point{Y: math.MaxInt}, api.Point{Y: math.MinInt}, 1},
		{api.Point{X: math.MaxInt, Y: math.MinInt}, api.Point{X: math.MinInt, Y: math.MaxInt}, -1},
		{api.Point{X: math.MinInt, Y: math.MinInt}, api.Point{X: math.MinInt, Y: math.MinInt}, 0},
	} {
		if got := point.Compare(c.a, c.b); got != c.want {
			t.Errorf("Compare(%v, %v) is %d, not %d", c.a, c.b, got, c.want)
		}
	}
}

// P3.1, P3.9
func TestCompareAllInts(t *testing.T) {
	list := everyPoint()
	for _, a := range list {
		for _, b := range list {
			want := 0
			if comesBefore(a, b) {
				want = -1
			}
			if comesBefore(b, a) {
				want = 1
			}
			got, back := point.Compare(a, b), point.Compare(b, a)
			if got != want || got != -back {
				t.Fatalf("Compare(%v, %v) is %d, not %d, and the other way %d", a, b, got, want, back)
			}
		}
	}
}

// P3.1
func TestSortExamples(t *testing.T) {
	for _, c := range []struct{ list, want []api.Point }{
		{nil, nil},
		{[]api.Point{}, nil},
		{[]api.Point{{X: 4, Y: 5}}, []api.Point{{X: 4, Y: 5}}},
		{[]api.Point{{X: 4, Y: 5}, {X: 4, Y: 5}, {X: 4, Y: 5}}, []api.Point{{X: 4, Y: 5}}},
		{[]api.Point{{X: 0, Y: 1}, {X: 1, Y: 0}}, []api.Point{{X: 1, Y: 0}, {X: 0, Y: 1}}},
		{
			[]api.Point{{X: 2, Y: 2}, {X: 2, Y: 1}, {X: 1, Y: 2}, {X: 2, Y: 2}, {X: 1, Y: 1}, {X: 2, Y: 1}},
			[]api.Point{{X: 1, Y: 1}, {X: 2, Y: 1}, {X: 1, Y: 2}, {X: 2, Y: 2}},
		},
		{
			[]api.Point{{X: math.MaxInt}, {Y: math.MaxInt}, {X: math.MinInt}, {Y: math.MinInt}, {X: math.MaxInt}},
			[]api.Point{{Y: math.MinInt}, {X: math.MinInt}, {X: math.MaxInt}, {Y: math.MaxInt}},
		},
	} {
		if got := point.Sort(c.list); !slices.Equal(got, c.want) {
			t.Errorf("Sort(%v) is %v, not %v", c.list, got, c.want)
		}
	}
}

// P3.1, P3.9
func TestSortRandom(t *testing.T) {
	rng := rand.New(rand.NewSource(31))
	small := func() int { return rng.Intn(7) - 3 }
	extreme := func() int { return allInts[rng.Intn(len(allInts))] }
	for round := range 600 {
		coord := small
		if round%2 == 1 {
			coord = extreme
		}
		list := make([]api.Point, rng.Intn(60))
		for i := range list {
			list[i] = api.Point{X: coord(), Y: coord()}
		}
		want := sortedOf(list)
		unchanged(t, list, func(l []api.Point) {
			if got := point.Sort(l); !slices.Equal(got, want) {
				t.Errorf("Sort(%v) is %v, not %v", l, got, want)
			}
		})
		unchanged(t, want, func(l []api.Point) {
			if got := point.Sort(l); !slices.Equal(got, l) {
				t.Errorf("Sort of the sorted list %v is %v", l, got)
			}
		})
	}
}

// P3.1: also of many positions.
func TestSortMany(t *testing.T) {
	rng := rand.New(rand.NewSource(32))
	want := membersOf(api.Box{X: -150, Y: most - 299, W: 300, H: 300})
	list := append(slices.Clone(want), want...)
	rng.Shuffle(len(list), func(i, j int) { list[i], list[j] = list[j], list[i] })
	if got := point.Sort(list); !slices.Equal(got, want) {
		t.Errorf("Sort of %d positions, each twice, returns %d", len(want), len(got))
	}
}

// P3.1: the result is memory of its own, also if there is nothing to sort.
func TestSortResultIsNew(t *testing.T) {
	list := []api.Point{{X: 1}, {X: 2}, {X: 3}}
	got := point.Sort(list)
	got[0] = api.Point{X: 9, Y: 9}
	_ = append(got[:1], api.Point{X: 8, Y: 8})
	if !slices.Equal(list, []api.Point{{X: 1}, {X: 2}, {X: 3}}) {
		t.Error("a change of the result changes the list to", list)
	}
}
