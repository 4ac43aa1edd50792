package hood_test

import (
	"math/rand"
	"slices"
	"testing"

	"cellular/api"
	"cellular/hood"
	"cellular/symmetry"
)

// P7.3
func TestRadiusAndCentreExamples(t *testing.T) {
	for _, c := range []struct {
		l              []api.Point
		radius, centre int
	}{
		{[]api.Point{{}}, 0, 0},
		{[]api.Point{{X: 1}}, 1, -1},
		{[]api.Point{{X: -1}}, 1, -1},
		{[]api.Point{{Y: 1}}, 1, -1},
		{[]api.Point{{Y: -1}}, 1, -1},
		{[]api.Point{{X: 2, Y: -1}}, 2, -1},
		{[]api.Point{{X: -2, Y: 1}}, 2, -1},
		{[]api.Point{{X: 1, Y: 2}}, 2, -1},
		{[]api.Point{{X: -1, Y: -2}}, 2, -1},
		{[]api.Point{{X: -1}, {}, {X: 1}}, 1, 1},
		{[]api.Point{{}, {X: 1}, {Y: 2}}, 2, 0},
		{[]api.Point{{Y: -2}, {X: -1}, {}}, 2, 2},
		{[]api.Point{{X: -2}, {}}, 2, 1},
		{[]api.Point{{}, {X: 2}}, 2, 0},
		{[]api.Point{{Y: -1}, {Y: 1}}, 1, -1},
		{mooreModel(1), 1, 4},
		{neumannModel(2), 2, 6},
		{everyOffset(), 2, 12},
		{slices.Delete(everyOffset(), 12, 13), 2, -1},
		{slices.Delete(mooreModel(1), 4, 5), 1, -1},
	} {
		checkRadiusAndCentre(t, c.l, c.radius, c.centre)
	}
}

// P7.3
func TestRadiusAndCentreOfSomeHoods(t *testing.T) {
	for _, l := range someHoods() {
		checkRadiusAndCentre(t, l, radiusModel(l), centreModel(l))
	}
}

// P7.3: a list that is no valid neighbourhood has neither, wherever (0, 0) is in it.
func TestRadiusAndCentreOfWrongLists(t *testing.T) {
	for _, l := range wrongLists() {
		checkRadiusAndCentre(t, l, 0, -1)
	}
	for _, x := range coords {
		for _, y := range coords {
			for _, l := range [][]api.Point{{{X: x, Y: y}}, {{}, {X: x, Y: y}}, {{X: x, Y: y}, {}}, {{X: 1}, {}, {X: x, Y: y}}} {
				checkRadiusAndCentre(t, l, radiusModel(l), centreModel(l))
			}
		}
	}
}

// P7.3
func TestRadiusAndCentreRandom(t *testing.T) {
	rng := rand.New(rand.NewSource(73))
	for _, l := range someLists(rng, 10000) {
		checkRadiusAndCentre(t, l, radiusModel(l), centreModel(l))
	}
}

// checkRadiusAndCentre compares Radius and Centre with what is expected.
func checkRadiusAndCentre(t *testing.T, l []api.Point, radius, centre int) {
	t.Helper()
	unchanged(t, l, func(l []api.Point) {
		if got := hood.Radius(l); got != radius {
			t.Errorf("Radius(%v) is %d, not %d", short(l), got, radius)
		}
		if got := hood.Centre(l); got != centre {
			t.Errorf("Centre(%v) is %d, not %d", short(l), got, centre)
		}
	})
}

// P7.4: lists with each group of symmetries: one, two, four and eight of them.
func TestSymsExamples(t *testing.T) {
	for _, c := range []struct {
		l    []api.Point
		want []int
	}{
		{[]api.Point{{X: 2, Y: -1}}, []int{0}},
		{[]api.Point{{X: -1}, {}, {Y: 1}, {X: 1, Y: 1}}, []int{0}},
		{[]api.Point{{X: -2, Y: -1}, {X: 2, Y: 1}}, []int{0, 2}},
		{[]api.Point{{X: 1, Y: -2}, {}, {X: -1, Y: 2}}, []int{0, 2}},
		{[]api.Point{{Y: 1}}, []int{0, 4}},
		{[]api.Point{{X: -1}, {X: 1}, {Y: 1}}, []int{0, 4}},
		{[]api.Point{{X: 1, Y: -1}}, []int{0, 5}},
		{[]api.Point{{X: -1}, {}, {Y: 1}}, []int{0, 5}},
		{[]api.Point{{X: 1}}, []int{0, 6}},
		{[]api.Point{{Y: -1}, {}, {X: 1}, {Y: 1}}, []int{0, 6}},
		{[]api.Point{{X: 1, Y: 1}}, []int{0, 7}},
		{[]api.Point{{}, {X: 1}, {Y: 1}}, []int{0, 7}},
		{[]api.Point{{X: 1, Y: -2}, {X: -2, Y: -1}, {X: 2, Y: 1}, {X: -1, Y: 2}}, []int{0, 1, 2, 3}},
		{[]api.Point{{X: -1, Y: -2}, {X: 2, Y: -1}, {}, {X: -2, Y: 1}, {X: 1, Y: 2}}, []int{0, 1, 2, 3}},
		{[]api.Point{{X: -1}, {}, {X: 1}}, []int{0, 2, 4, 6}},
		{[]api.Point{{Y: -2}, {Y: 2}}, []int{0, 2, 4, 6}},
		{[]api.Point{{X: -1, Y: -1}, {X: 1, Y: 1}}, []int{0, 2, 5, 7}},
		{[]api.Point{{X: 2, Y: -2}, {}, {X: -2, Y: 2}}, []int{0, 2, 5, 7}},
		{hexModel(), []int{0, 2, 5, 7}},
		{[]api.Point{{}}, all},
		{[]api.Point{{Y: -2}, {X: -2}, {X: 2}, {Y: 2}}, all},
		{[]api.Point{{X: -1, Y: -1}, {X: 1, Y: -1}, {X: -1, Y: 1}, {X: 1, Y: 1}}, all},
		{slices.Delete(everyOffset(), 12, 13), all},
		{everyOffset(), all},
	} {
		checkSyms(t, c.l, c.want)
	}
}

// P7.4, P7.7
func TestSymsOfSomeHoods(t *testing.T) {
	numbers := map[int]int{}
	for _, l := range someHoods() {
		want := symsModel(l)
		checkSyms(t, l, want)
		numbers[len(want)]++
	}
	if len(numbers) != 4 || numbers[1] == 0 || numbers[2] == 0 || numbers[4] == 0 || numbers[8] == 0 {
		t.Error("the neighbourhoods by their numbers of symmetries are", numbers)
	}
}

// P7.4: nothing for a list that is no valid neighbourhood, even if all symmetries map its offsets to themselves.
func TestSymsOfWrongLists(t *testing.T) {
	for _, l := range wrongLists() {
		checkSyms(t, l, nil)
	}
	for _, x := range coords {
		for _, y := range coords {
			for _, l := range [][]api.Point{{{X: x, Y: y}}, {{}, {X: x, Y: y}}, {{X: x, Y: y}, {}}} {
				checkSyms(t, l, symsModel(l))
			}
		}
	}
}

// P7.4
func TestSymsRandom(t *testing.T) {
	rng := rand.New(rand.NewSource(74))
	for _, l := range someLists(rng, 10000) {
		checkSyms(t, l, symsModel(l))
	}
}

// checkSyms compares Syms with what is expected, and reports whether the list stays as it is. The symmetries of a valid
// neighbourhood have to be a group.
func checkSyms(t *testing.T, l []api.Point, want []int) {
	t.Helper()
	unchanged(t, l, func(l []api.Point) {
		got := hood.Syms(l)
		if !slices.Equal(got, want) {
			t.Errorf("Syms(%v) is %v, not %v", short(l), got, want)
		}
		if group := symmetry.Group(got); isHood(l) && !slices.Equal(group, got) {
			t.Errorf("Syms(%v) is %v, which is not the group %v", l, got, group)
		}
	})
}

// P7.4: each result is memory of its own.
func TestSymsResultIsNew(t *testing.T) {
	l := hexModel()
	got := hood.Syms(l)
	got[0] = 9
	_ = append(got[:1], 8)
	if again := hood.Syms(l); !slices.Equal(again, []int{0, 2, 5, 7}) {
		t.Error("a change of a result changes the next one to", again)
	}
}
