package point_test

import (
	"math"
	"math/rand"
	"slices"
	"testing"

	"cellular/api"
	"cellular/point"
)

// P3.2
func TestRightExamples(t *testing.T) {
	for _, b := range edgeBoxes {
		if !point.Right(b) {
			t.Errorf("the box %v is valid", b)
		}
	}
	for _, b := range wrongBoxes {
		if point.Right(b) {
			t.Errorf("the box %v is not valid", b)
		}
	}
}

// P3.2
func TestRightAllInts(t *testing.T) {
	everyBox(func(b api.Box) {
		if got := point.Right(b); got != isRight(b) {
			t.Errorf("Right(%v) is %v", b, got)
		}
	})
	for _, from := range allInts {
		for _, n := range allInts {
			for _, b := range []api.Box{{X: from, W: n, H: 1}, {Y: from, W: 1, H: n}} {
				if got := point.Right(b); got != isRight(b) {
					t.Errorf("Right(%v) is %v", b, got)
				}
			}
		}
	}
}

// P3.2
func TestInSmallBox(t *testing.T) {
	b := api.Box{X: -1, Y: 2, W: 3, H: 2}
	for y := 0; y < 7; y++ {
		for x := -4; x < 6; x++ {
			want := x >= -1 && x <= 1 && y >= 2 && y <= 3
			if got := point.In(b, api.Point{X: x, Y: y}); got != want {
				t.Errorf("In(%v, (%d, %d)) is %v", b, x, y, got)
			}
		}
	}
}

// P3.2
func TestInAllInts(t *testing.T) {
	points := everyPoint()
	for _, b := range append(slices.Clone(edgeBoxes), api.Box{X: -1, Y: -1, W: 3, H: 2}) {
		for _, p := range points {
			if got := point.In(b, p); got != isIn(b, p) {
				t.Errorf("In(%v, %v) is %v", b, p, got)
			}
		}
	}
}

// P3.2
func TestInWrongBox(t *testing.T) {
	points := everyPoint()
	for _, b := range wrongBoxes {
		for _, p := range append(points, api.Point{X: b.X, Y: b.Y}) {
			if point.In(b, p) {
				t.Errorf("%v is in the box %v, which is not valid", p, b)
			}
		}
	}
}

// P3.2
func TestPointsExample(t *testing.T) {
	want := []api.Point{{X: 1, Y: 2}, {X: 2, Y: 2}, {X: 1, Y: 3}, {X: 2, Y: 3}}
	if got := point.Points(api.Box{X: 1, Y: 2, W: 2, H: 2}); !slices.Equal(got, want) {
		t.Error("the positions are", got)
	}
	want = []api.Point{{X: most - 1, Y: -most}, {X: most, Y: -most}}
	if got := point.Points(api.Box{X: most - 1, Y: -most, W: 2, H: 1}); !slices.Equal(got, want) {
		t.Error("the positions at the limit are", got)
	}
}

// P3.2
func TestPointsOfSmallBoxes(t *testing.T) {
	for w := 1; w < 9; w++ {
		for h := 1; h < 9; h++ {
			for _, b := range []api.Box{{X: -4, Y: 3, W: w, H: h}, {X: -most, Y: most + 1 - h, W: w, H: h}, {X: most + 1 - w, Y: -most, W: w, H: h}} {
				if got := point.Points(b); !slices.Equal(got, membersOf(b)) {
					t.Errorf("the positions of %v are %v", b, got)
				}
			}
		}
	}
}

// P3.2
func TestPointsLimit(t *testing.T) {
	for _, b := range []api.Box{{W: 5000, H: 1}, {W: 1, H: 5000}, {X: -25, Y: 3, W: 50, H: 100}, {W: 70, H: 71}, {W: 4999, H: 1}, {W: 3, H: 1666}} {
		if got := point.Points(b); !slices.Equal(got, membersOf(b)) || len(got) > api.MaxCells {
			t.Errorf("the box %v has %d positions", b, len(got))
		}
	}
	for _, b := range []api.Box{
		{W: 5001, H: 1}, {W: 1, H: 5001}, {W: 3, H: 1667}, {W: 1667, H: 3}, {W: 71, H: 71}, {W: 2500, H: 3}, {W: 4999, H: 2},
		{X: -most, Y: -most, W: 2*most + 1, H: 2*most + 1}, {X: -most, W: 2*most + 1, H: 1}, {Y: -most, W: 1, H: 2*most + 1},
	} {
		if got := point.Points(b); len(got) != 0 {
			t.Errorf("Points of %v returns %d positions", b, len(got))
		}
	}
}

// P3.2
func TestPointsOfWrongBoxes(t *testing.T) {
	for _, b := range append(wrongBoxes, api.Box{X: most, W: 3, H: 2}, api.Box{W: -2, H: -2}, api.Box{X: most + 5, Y: 1, W: 2, H: 2}) {
		if got := point.Points(b); len(got) != 0 {
			t.Errorf("Points of %v, which is not valid, returns %d positions", b, len(got))
		}
	}
}

// P3.2: each result is memory of its own.
func TestPointsResultIsNew(t *testing.T) {
	b := api.Box{W: 3, H: 2}
	got := point.Points(b)
	got[0] = api.Point{X: 9, Y: 9}
	if again := point.Points(b); !slices.Equal(again, membersOf(b)) {
		t.Error("a change of a result changes the next one to", again)
	}
}

// P3.3
func TestAroundExamples(t *testing.T) {
	for _, c := range []struct {
		list []api.Point
		want api.Box
	}{
		{[]api.Point{{}}, api.Box{W: 1, H: 1}},
		{[]api.Point{{X: 5, Y: -7}, {X: 5, Y: -7}}, api.Box{X: 5, Y: -7, W: 1, H: 1}},
		{[]api.Point{{X: 3, Y: -1}, {X: -2, Y: 4}}, api.Box{X: -2, Y: -1, W: 6, H: 6}},
		{[]api.Point{{X: -2, Y: -1}, {X: 3, Y: 4}}, api.Box{X: -2, Y: -1, W: 6, H: 6}},
		{[]api.Point{{X: 4, Y: 1}, {X: 2, Y: 9}, {X: 7, Y: 8}}, api.Box{X: 2, Y: 1, W: 6, H: 9}},
		{[]api.Point{{X: most, Y: -most}, {X: -most, Y: most}}, api.Box{X: -most, Y: -most, W: 2*most + 1, H: 2*most + 1}},
	} {
		if got, ok := point.Around(c.list); !ok || got != c.want {
			t.Errorf("Around(%v) is %v, %v, not %v", c.list, got, ok, c.want)
		}
	}
}

// P3.3
func TestAroundRandom(t *testing.T) {
	rng := rand.New(rand.NewSource(33))
	for round := range 500 {
		size := []int{3, 100, most}[round%3]
		list := make([]api.Point, 1+rng.Intn(12))
		for i := range list {
			list[i] = api.Point{X: rng.Intn(2*size+1) - size, Y: rng.Intn(2*size+1) - size}
		}
		want := covering(list)
		unchanged(t, list, func(l []api.Point) {
			if got, ok := point.Around(l); !ok || got != want {
				t.Errorf("Around(%v) is %v, %v, not %v", l, got, ok, want)
			}
		})
	}
}

// P3.3
func TestAroundNothing(t *testing.T) {
	for _, list := range [][]api.Point{nil, {}} {
		if got, ok := point.Around(list); ok || got != (api.Box{}) {
			t.Errorf("Around of nothing is %v, %v", got, ok)
		}
	}
}

// P3.3: a position that is not valid counts wherever it is in the list.
func TestAroundWrongPosition(t *testing.T) {
	good := []api.Point{{X: 1, Y: 1}, {X: -3, Y: 2}}
	for _, p := range everyPoint() {
		right := p.X >= -most && p.X <= most && p.Y >= -most && p.Y <= most
		for i := range len(good) + 1 {
			list := slices.Insert(slices.Clone(good), i, p)
			want := api.Box{}
			if right {
				want = covering(list)
			}
			unchanged(t, list, func(l []api.Point) {
				if got, ok := point.Around(l); ok != right || got != want {
					t.Errorf("Around(%v) is %v, %v, not %v, %v", l, got, ok, want, right)
				}
			})
		}
		if got, ok := point.Around([]api.Point{p}); ok != right || !right && got != (api.Box{}) {
			t.Errorf("Around of %v is %v, %v", p, got, ok)
		}
	}
}

// P3.7
func TestAroundOfPoints(t *testing.T) {
	rng := rand.New(rand.NewSource(37))
	list := append(smallBoxes(rng, 200), api.Box{W: 5000, H: 1}, api.Box{X: -7, Y: 7, W: 50, H: 100}, api.Box{X: most, Y: most - 4999, W: 1, H: 5000})
	for _, b := range list {
		if got, ok := point.Around(point.Points(b)); !ok || got != b {
			t.Errorf("Around of the positions of %v is %v, %v", b, got, ok)
		}
	}
}

// P3.4
func TestMeetAndJoinExamples(t *testing.T) {
	all := api.Box{X: -most, Y: -most, W: 2*most + 1, H: 2*most + 1}
	for _, c := range []struct {
		a, b, meet, join api.Box
	}{
		{api.Box{W: 4, H: 4}, api.Box{X: 2, Y: 3, W: 5, H: 5}, api.Box{X: 2, Y: 3, W: 2, H: 1}, api.Box{W: 7, H: 8}},
		{api.Box{W: 9, H: 9}, api.Box{X: 2, Y: 3, W: 1, H: 2}, api.Box{X: 2, Y: 3, W: 1, H: 2}, api.Box{W: 9, H: 9}},
		{api.Box{W: 2, H: 2}, api.Box{X: 2, W: 2, H: 2}, api.Box{}, api.Box{W: 4, H: 2}},
		{api.Box{W: 2, H: 2}, api.Box{Y: 2, W: 2, H: 2}, api.Box{}, api.Box{W: 2, H: 4}},
		{api.Box{W: 2, H: 2}, api.Box{X: 1, Y: 1, W: 2, H: 2}, api.Box{X: 1, Y: 1, W: 1, H: 1}, api.Box{W: 3, H: 3}},
		{api.Box{W: 1, H: 1}, api.Box{X: 5, Y: -7, W: 1, H: 1}, api.Box{}, api.Box{Y: -7, W: 6, H: 8}},
		{api.Box{X: -most, Y: -most, W: 1, H: 1}, api.Box{X: most, Y: most, W: 1, H: 1}, api.Box{}, all},
		{all, api.Box{X: most, Y: -most, W: 1, H: 3}, api.Box{X: most, Y: -most, W: 1, H: 3}, all},
		{all, all, all, all},
	} {
		checkPair(t, c.a, c.b, c.meet, c.join)
		checkPair(t, c.b, c.a, c.meet, c.join)
	}
}

// checkPair compares Meet and Join of two boxes with the expected boxes, of which that of Meet is the zero box if there is none.
func checkPair(t *testing.T, a, b, meet, join api.Box) {
	t.Helper()
	if got, ok := point.Meet(a, b); got != meet || ok != (meet != api.Box{}) {
		t.Errorf("Meet(%v, %v) is %v, %v, not %v", a, b, got, ok, meet)
	}
	if got := point.Join(a, b); got != join {
		t.Errorf("Join(%v, %v) is %v, not %v", a, b, got, join)
	}
}

// P3.4, P3.6
func TestMeetAndJoinOfSmallBoxes(t *testing.T) {
	rng := rand.New(rand.NewSource(34))
	list := smallBoxes(rng, 70)
	for _, a := range list {
		for _, b := range list {
			meet, join := bruteForce(a, b)
			checkPair(t, a, b, meet, join)
		}
	}
}

// P3.4
func TestMeetAndJoinOfSmallBoxesAtLimits(t *testing.T) {
	const reach = most - 13
	rng := rand.New(rand.NewSource(38))
	list := smallBoxes(rng, 40)
	for i, b := range list {
		list[i] = moved(b, reach, -reach)
	}
	for _, a := range list {
		for _, b := range list {
			meet, join := bruteForce(a, b)
			checkPair(t, a, b, meet, join)
		}
	}
}

// bruteForce returns what Meet and Join have to return for small valid boxes, from the lists of their positions.
func bruteForce(a, b api.Box) (meet, join api.Box) {
	inA, inB := membersOf(a), membersOf(b)
	var common []api.Point
	for _, p := range inA {
		if slices.Contains(inB, p) {
			common = append(common, p)
		}
	}
	if len(common) > 0 {
		meet = covering(common)
	}
	return meet, covering(append(inA, inB...))
}

// P3.6
func TestMembers(t *testing.T) {
	rng := rand.New(rand.NewSource(36))
	list := smallBoxes(rng, 40)
	points := membersOf(api.Box{X: -8, Y: -8, W: 24, H: 24})
	for _, a := range list {
		for _, b := range list {
			meet, _ := point.Meet(a, b)
			join := point.Join(a, b)
			for _, p := range points {
				inA, inB := point.In(a, p), point.In(b, p)
				if point.In(meet, p) != (inA && inB) || (inA || inB) && !point.In(join, p) {
					t.Fatalf("%v of %v and %v: in Meet %v, in Join %v", p, a, b, point.In(meet, p), point.In(join, p))
				}
			}
		}
	}
}

// P3.4
func TestMeetAndJoinAtLimits(t *testing.T) {
	for _, a := range edgeBoxes {
		for _, b := range edgeBoxes {
			x, y := max(a.X, b.X), max(a.Y, b.Y)
			meet := api.Box{X: x, Y: y, W: min(a.X+a.W, b.X+b.W) - x, H: min(a.Y+a.H, b.Y+b.H) - y}
			if meet.W < 1 || meet.H < 1 {
				meet = api.Box{}
			}
			x, y = min(a.X, b.X), min(a.Y, b.Y)
			join := api.Box{X: x, Y: y, W: max(a.X+a.W, b.X+b.W) - x, H: max(a.Y+a.H, b.Y+b.H) - y}
			checkPair(t, a, b, meet, join)
		}
	}
}

// P3.4
func TestMeetAndJoinOfWrongBoxes(t *testing.T) {
	right := append(slices.Clone(edgeBoxes), api.Box{X: 1, Y: 2, W: 3, H: 4}, api.Box{W: 1, H: 1})
	for _, a := range wrongBoxes {
		for _, b := range right {
			checkPair(t, a, b, api.Box{}, b)
			checkPair(t, b, a, api.Box{}, b)
		}
		for _, b := range wrongBoxes {
			checkPair(t, a, b, api.Box{}, api.Box{})
		}
	}
}

// P3.5
func TestGrowExamples(t *testing.T) {
	for _, c := range []struct {
		b    api.Box
		k    int
		want api.Box
		e    api.Errno
	}{
		{api.Box{W: 3, H: 1}, 1, api.Box{X: -1, Y: -1, W: 5, H: 3}, api.OK},
		{api.Box{W: 3, H: 1}, 0, api.Box{W: 3, H: 1}, api.OK},
		{api.Box{X: 4, Y: -5, W: 7, H: 6}, -2, api.Box{X: 6, Y: -3, W: 3, H: 2}, api.OK},
		{api.Box{X: 4, Y: -5, W: 7, H: 6}, 10, api.Box{X: -6, Y: -15, W: 27, H: 26}, api.OK},
		{api.Box{W: 1, H: 1}, most, api.Box{X: -most, Y: -most, W: 2*most + 1, H: 2*most + 1}, api.OK},
		{api.Box{X: -most, Y: -most, W: 2*most + 1, H: 2*most + 1}, -most, api.Box{W: 1, H: 1}, api.OK},
		{api.Box{W: 3, H: 1}, -1, api.Box{}, api.ErrSize},
		{api.Box{W: 1, H: 3}, -1, api.Box{}, api.ErrSize},
		{api.Box{W: 2, H: 4}, -1, api.Box{}, api.ErrSize},
		{api.Box{W: 4, H: 2}, -1, api.Box{}, api.ErrSize},
		{api.Box{X: -most, Y: -most, W: 2*most + 1, H: 2*most + 1}, -most - 1, api.Box{}, api.ErrSize},
		{api.Box{W: 3, H: 5}, math.MinInt, api.Box{}, api.ErrSize},
		{api.Box{W: 3, H: 5}, math.MinInt / 2, api.Box{}, api.ErrSize},
		{api.Box{W: 3, H: 5}, math.MaxInt, api.Box{}, api.ErrRange},
		{api.Box{W: 3, H: 5}, math.MaxInt / 2, api.Box{}, api.ErrRange},
		{api.Box{W: 1, H: 1}, most + 1, api.Box{}, api.ErrRange},
		{api.Box{X: most, W: 1, H: 1}, 1, api.Box{}, api.ErrRange},
		{api.Box{X: -most, W: 1, H: 1}, 1, api.Box{}, api.ErrRange},
		{api.Box{Y: most, W: 1, H: 1}, 1, api.Box{}, api.ErrRange},
		{api.Box{Y: -most, W: 1, H: 1}, 1, api.Box{}, api.ErrRange},
		{api.Box{X: most - 1, Y: 1 - most, W: 1, H: 1}, 1, api.Box{X: most - 2, Y: -most, W: 3, H: 3}, api.OK},
	} {
		if got, e := point.Grow(c.b, c.k); got != c.want || e != c.e {
			t.Errorf("Grow(%v, %d) is %v, %d, not %v, %d", c.b, c.k, got, e, c.want, c.e)
		}
	}
}

// P3.5: ErrArg comes first, whatever else would be wrong.
func TestGrowOrderOfErrors(t *testing.T) {
	for _, b := range wrongBoxes {
		for _, k := range allInts {
			if got, e := point.Grow(b, k); got != (api.Box{}) || e != api.ErrArg {
				t.Errorf("Grow(%v, %d) is %v, %d", b, k, got, e)
			}
		}
	}
}

// P3.5, P3.8
func TestGrowAllInts(t *testing.T) {
	everyBox(func(b api.Box) {
		for _, k := range allInts {
			checkGrow(t, b, k)
		}
	})
}

// P3.5, P3.8
func TestGrowSmallBoxes(t *testing.T) {
	rng := rand.New(rand.NewSource(35))
	for i, b := range smallBoxes(rng, 300) {
		if i%3 == 1 {
			b = moved(b, most-15, 15-most)
		}
		for k := -8; k <= 30; k++ {
			checkGrow(t, b, k)
		}
	}
}

// checkGrow compares Grow with the model, and Grow by -k of its result with the box.
func checkGrow(t *testing.T, b api.Box, k int) {
	t.Helper()
	want, f := grown(b, k)
	got, e := point.Grow(b, k)
	if got != want || e != f {
		t.Errorf("Grow(%v, %d) is %v, %d, not %v, %d", b, k, got, e, want, f)
	}
	if f != api.OK {
		return
	}
	if back, e := point.Grow(got, -k); back != b || e != api.OK {
		t.Errorf("Grow(%v, %d) and then by %d is %v, %d", b, k, -k, back, e)
	}
}
