package symmetry_test

import (
	"math"
	"math/rand"
	"slices"
	"testing"

	"cellular/api"
	"cellular/symmetry"
)

// P4.4
func TestGroupExamples(t *testing.T) {
	all := []int{0, 1, 2, 3, 4, 5, 6, 7}
	for _, c := range []struct{ l, want []int }{
		{nil, []int{0}},
		{[]int{}, []int{0}},
		{[]int{0, 0}, []int{0}},
		{[]int{2}, []int{0, 2}},
		{[]int{1}, []int{0, 1, 2, 3}},
		{[]int{3, 3, 3}, []int{0, 1, 2, 3}},
		{[]int{7}, []int{0, 7}},
		{[]int{6, 2, 6}, []int{0, 2, 4, 6}},
		{[]int{7, 5}, []int{0, 2, 5, 7}},
		{[]int{1, 4}, all},
		{[]int{4, 5}, all},
		{[]int{-6, 10}, []int{0, 2}},
		{[]int{math.MinInt}, []int{0}},
		{[]int{math.MaxInt}, []int{0, 7}},
		{[]int{math.MaxInt, math.MinInt + 5}, []int{0, 2, 5, 7}},
	} {
		if got := symmetry.Group(c.l); !slices.Equal(got, c.want) {
			t.Errorf("Group(%v) is %v, not %v", c.l, got, c.want)
		}
	}
}

// randomNumbers returns a list of numbers of symmetries, some of them more than once.
func randomNumbers(rng *rand.Rand) []int {
	list := make([]int, rng.Intn(6))
	for i := range list {
		list[i] = numbers[rng.Intn(len(numbers))]
		if i > 0 && rng.Intn(3) == 0 {
			list[i] = list[i-1]
		}
	}
	return list
}

// P4.4, P4.8
func TestGroupOfAllSets(t *testing.T) {
	groups := allGroups()
	for set := range 1 << 8 {
		list := elements(set)
		checkGroup(t, groups, list)
		slices.Reverse(list)
		checkGroup(t, groups, list)
	}
}

// P4.4, P4.8
func TestGroupRandom(t *testing.T) {
	rng := rand.New(rand.NewSource(44))
	groups := allGroups()
	for range 2000 {
		checkGroup(t, groups, randomNumbers(rng))
	}
}

// P4.4: also of many symmetries.
func TestGroupOfLongList(t *testing.T) {
	list := slices.Repeat([]int{-6, 2, 10, math.MinInt + 2}, 50000)
	if got := symmetry.Group(list); !slices.Equal(got, []int{0, 2}) {
		t.Error("Group of many half turns is", got)
	}
	if got := symmetry.Group(append(list, math.MaxInt)); !slices.Equal(got, []int{0, 2, 5, 7}) {
		t.Error("Group of many half turns and a reflection is", got)
	}
}

// checkGroup compares Group with the smallest of all groups that contains the list, and examines the result as P4.8 describes it.
func checkGroup(t *testing.T, groups, list []int) {
	t.Helper()
	want := groupOf(groups, list)
	unchanged(t, list, func(l []int) {
		got := symmetry.Group(l)
		if !slices.Equal(got, want) {
			t.Errorf("Group(%v) is %v, not %v", l, got, want)
		}
		if n := len(got); n != 1 && n != 2 && n != 4 && n != 8 {
			t.Errorf("Group(%v) has %d elements", l, n)
		}
		if again := symmetry.Group(got); !slices.Equal(again, got) {
			t.Errorf("Group of the group %v is %v", got, again)
		}
	})
}

// P4.4: the result is memory of its own, also if the list is a group.
func TestGroupResultIsNew(t *testing.T) {
	list := []int{0, 1, 2, 3}
	got := symmetry.Group(list)
	got[0] = 9
	_ = append(got[:1], 8)
	if !slices.Equal(list, []int{0, 1, 2, 3}) {
		t.Error("a change of the result changes the list to", list)
	}
	if again := symmetry.Group(list); !slices.Equal(again, []int{0, 1, 2, 3}) {
		t.Error("a change of the result changes the next one to", again)
	}
}

// P4.6
func TestOrbitsExamples(t *testing.T) {
	for _, c := range []struct {
		l    []int
		w, h int
		want []int
	}{
		{[]int{2}, 3, 1, []int{0, 1, 0}},
		{nil, 3, 2, []int{0, 1, 2, 3, 4, 5}},
		{[]int{}, 1, 1, []int{0}},
		{[]int{1, 4}, 1, 1, []int{0}},
		{[]int{2}, 3, 2, []int{0, 1, 2, 2, 1, 0}},
		{[]int{4}, 3, 2, []int{0, 1, 0, 3, 4, 3}},
		{[]int{6}, 3, 2, []int{0, 1, 2, 0, 1, 2}},
		{[]int{4, 6, 4}, 3, 2, []int{0, 1, 0, 0, 1, 0}},
		{[]int{-4, 10}, 3, 2, []int{0, 1, 0, 0, 1, 0}},
		{[]int{1}, 3, 3, []int{0, 1, 0, 1, 4, 1, 0, 1, 0}},
		{[]int{7}, 2, 2, []int{0, 1, 1, 3}},
		{[]int{5}, 2, 2, []int{0, 1, 2, 0}},
		{[]int{math.MaxInt}, 2, 2, []int{0, 1, 1, 3}},
		{[]int{math.MinInt}, 2, 3, []int{0, 1, 2, 3, 4, 5}},
		{[]int{1}, 4, 4, []int{0, 1, 2, 0, 2, 5, 5, 1, 1, 5, 5, 2, 0, 2, 1, 0}},
	} {
		if got, e := symmetry.Orbits(c.l, c.w, c.h); !slices.Equal(got, c.want) || e != api.OK {
			t.Errorf("Orbits(%v, %d, %d) is %v, %d, not %v", c.l, c.w, c.h, got, e, c.want)
		}
	}
}

// P4.6, P4.8
func TestOrbitsOfAllSets(t *testing.T) {
	groups := allGroups()
	for set := range 1 << 8 {
		for w := 1; w <= 4; w++ {
			for h := 1; h <= 4; h++ {
				checkOrbits(t, groups, elements(set), w, h)
			}
		}
	}
}

// P4.6, P4.8
func TestOrbitsRandom(t *testing.T) {
	rng := rand.New(rand.NewSource(46))
	groups := allGroups()
	for range 1000 {
		list := randomNumbers(rng)
		w, h := 1+rng.Intn(12), 1+rng.Intn(12)
		checkOrbits(t, groups, list, w, h)
		checkOrbits(t, groups, list, w, w)
	}
}

// P4.6, P4.8: boxes with the greatest sides and areas.
func TestOrbitsAtLimits(t *testing.T) {
	groups := allGroups()
	for _, size := range [][2]int{{256, 16}, {16, 256}, {64, 64}, {256, 1}, {1, 256}, {255, 16}, {63, 65}, {63, 63}} {
		for _, list := range [][]int{nil, {2}, {4}, {6}, {4, 6}, {1}, {5}, {7}, {1, 4}, {math.MaxInt, math.MinInt}} {
			checkOrbits(t, groups, list, size[0], size[1])
		}
	}
}

// checkOrbits compares Orbits of a box within the limits with the model, and examines the orbits as P4.8 describes them.
func checkOrbits(t *testing.T, groups, list []int, w, h int) {
	t.Helper()
	group := groupOf(groups, list)
	var want []int
	wantError := api.ErrArg
	if w == h || !slices.ContainsFunc(group, func(k int) bool { return k%2 == 1 }) {
		want, wantError = orbitsOf(group, w, h), api.OK
	}
	unchanged(t, list, func(l []int) {
		got, e := symmetry.Orbits(l, w, h)
		if !slices.Equal(got, want) || e != wantError {
			t.Errorf("Orbits(%v, %d, %d) is %v, %d, not %v, %d", l, w, h, got, e, want, wantError)
		}
		if e == api.OK {
			checkFirsts(t, group, got, w, h)
		}
	})
}

// checkFirsts examines whether a symmetry of the group maps each position to the one with its number, which has this number itself.
func checkFirsts(t *testing.T, group, firsts []int, w, h int) {
	t.Helper()
	for i, first := range firsts {
		reaches := func(k int) bool {
			return symmetry.Within(k, api.Box{W: w, H: h}, api.Point{X: i % w, Y: i / w}) == api.Point{X: first % w, Y: first / w}
		}
		if first < 0 || first > i || firsts[first] != first || !slices.ContainsFunc(group, reaches) {
			t.Errorf("of the box %d, %d and the group %v, the position %d has the number %d", w, h, group, i, first)
		}
	}
}

// P4.8: each symmetry of the group joins positions, so those with different numbers are never mapped to each other.
func TestOrbitsAreClosed(t *testing.T) {
	for _, list := range [][]int{nil, {1}, {2}, {3}, {4}, {5}, {6}, {7}, {4, 6}, {5, 7}, {4, 5}} {
		const side = 5
		firsts, e := symmetry.Orbits(list, side, side)
		if e != api.OK {
			t.Fatalf("Orbits(%v, %d, %d) is the error %d", list, side, side, e)
		}
		for i, first := range firsts {
			for _, k := range symmetry.Group(list) {
				q := symmetry.Within(k, api.Box{W: side, H: side}, api.Point{X: i % side, Y: i / side})
				if firsts[q.Y*side+q.X] != first {
					t.Errorf("the symmetry %d of Group(%v) maps the position %d to another orbit", k, list, i)
				}
			}
		}
	}
}

// P4.6: sides and areas beyond the limits.
func TestOrbitsWrongSize(t *testing.T) {
	for _, size := range [][2]int{
		{0, 1}, {1, 0}, {0, 0}, {-1, 1}, {1, -1}, {-2, -2}, {257, 1}, {1, 257}, {257, 257}, {256, 17}, {17, 256}, {256, 256}, {65, 64},
		{64, 65}, {4096, 1}, {1, 4096}, {math.MaxInt, 1}, {1, math.MaxInt}, {math.MinInt, 1}, {1, math.MinInt},
		{math.MinInt, math.MinInt}, {math.MaxInt, math.MaxInt}, {math.MinInt, 2}, {1 << 32, 1 << 32}, {1 << 62, 4},
	} {
		for _, list := range [][]int{nil, {2}, {1}, {1, 4}, {math.MinInt}} {
			if got, e := symmetry.Orbits(list, size[0], size[1]); len(got) != 0 || e != api.ErrArg {
				t.Errorf("Orbits(%v, %d, %d) is %v, %d", list, size[0], size[1], got, e)
			}
		}
	}
}

// P4.6: symmetries that do not map the box to itself, wherever they are in the list.
func TestOrbitsWrongGroup(t *testing.T) {
	for _, list := range [][]int{{1}, {3}, {5}, {7}, {0, 2, 3}, {7, 2, 0}, {4, 5}, {-1}, {9}, {math.MaxInt}, {math.MinInt + 1}} {
		for _, size := range [][2]int{{2, 3}, {3, 2}, {1, 2}, {256, 16}, {16, 256}} {
			if got, e := symmetry.Orbits(list, size[0], size[1]); len(got) != 0 || e != api.ErrArg {
				t.Errorf("Orbits(%v, %d, %d) is %v, %d", list, size[0], size[1], got, e)
			}
		}
		if _, e := symmetry.Orbits(list, 3, 3); e != api.OK {
			t.Errorf("Orbits(%v, 3, 3) is the error %d", list, e)
		}
	}
}

// P4.6: each result is memory of its own.
func TestOrbitsResultIsNew(t *testing.T) {
	got, _ := symmetry.Orbits([]int{2}, 3, 1)
	got[0] = 9
	if again, _ := symmetry.Orbits([]int{2}, 3, 1); !slices.Equal(again, []int{0, 1, 0}) {
		t.Error("a change of a result changes the next one to", again)
	}
}
