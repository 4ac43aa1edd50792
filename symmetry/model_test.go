package symmetry_test

import (
	"math"
	"math/big"
	"math/rand"
	"slices"
	"testing"

	"cellular/api"
)

// The tests compare package symmetry with a model that makes one quarter turn after the other, visits all positions of a box, and
// examines all sets of symmetries.

const most = api.MaxCoord

// numbers are numbers of symmetries, also at the limits of int.
var numbers = []int{
	0, 1, 2, 3, 4, 5, 6, 7, 8, 9, 10, 11, 12, 13, 14, 15, 16, 100, -1, -2, -3, -4, -5, -6, -7, -8, -9, -10, -11, -12, -16, -17,
	math.MinInt, math.MinInt + 1, math.MinInt + 4, math.MinInt + 7, math.MinInt32 + 3,
	math.MaxInt, math.MaxInt - 1, math.MaxInt - 3, math.MaxInt - 4, math.MaxInt - 7, math.MaxInt32 - 2,
}

// coords are coordinates, also at the limits of valid positions and of int.
var coords = []int{
	math.MinInt, math.MinInt + 1, -most - 1, -most, -5, -1, 0, 1, 2, 7, most, most + 1, math.MaxInt - 1, math.MaxInt,
}

// limitBoxes are valid boxes that reach to the limits.
var limitBoxes = []api.Box{
	{X: -most, Y: -most, W: 2*most + 1, H: 2*most + 1},
	{X: -most, Y: 3, W: 2*most + 1, H: 1},
	{X: 2, Y: -most, W: 4, H: 2*most + 1},
	{X: most, Y: most, W: 1, H: 1},
	{X: -most, Y: most - 1, W: 3, H: 2},
	{X: most - 6, Y: -most, W: 7, H: 5},
}

// invalidBoxes are boxes of which a side or a position is not valid.
var invalidBoxes = []api.Box{
	{}, {W: 3}, {H: 3}, {X: 1, Y: 1, W: -1, H: 2}, {X: 1, Y: 1, W: 2, H: -1}, {W: -2, H: -2},
	{X: most, W: 2, H: 2}, {Y: most, W: 2, H: 2}, {X: -most - 1, W: 2, H: 2}, {Y: -most - 1, W: 2, H: 2},
	{X: -most, W: 2*most + 2, H: 1}, {Y: -most, W: 1, H: 2*most + 2},
	{W: math.MaxInt, H: 1}, {W: 1, H: math.MaxInt}, {W: math.MinInt, H: 1}, {W: 1, H: math.MinInt},
	{X: math.MinInt, W: 1, H: 1}, {Y: math.MinInt, W: 1, H: 1}, {X: math.MaxInt, W: 1, H: 1}, {Y: math.MaxInt, W: 1, H: 1},
	{X: math.MaxInt, Y: math.MaxInt, W: math.MaxInt, H: math.MaxInt},
}

// remainder returns the number from 0 to 7 that k stands for.
func remainder(k int) int {
	return int(new(big.Int).Mod(big.NewInt(int64(k)), big.NewInt(8)).Int64())
}

// imageOf returns the image of a position, turn by turn.
func imageOf(k int, p api.Point) api.Point {
	k = remainder(k)
	if k >= 4 {
		p.X = -p.X
	}
	for range k % 4 {
		p.X, p.Y = -p.Y, p.X
	}
	return p
}

// composed returns the symmetry that moves a position, whose eight images are different, like a followed by b.
func composed(a, b int) int {
	p := api.Point{X: 1, Y: 3}
	k := 0
	for imageOf(k, p) != imageOf(b, imageOf(a, p)) {
		k++
	}
	return k
}

// turnedBox returns the box that contains the images of all four corners of a valid box.
func turnedBox(k int, b api.Box) api.Box {
	var xs, ys []int
	for _, x := range []int{b.X, b.X + b.W - 1} {
		for _, y := range []int{b.Y, b.Y + b.H - 1} {
			p := imageOf(k, api.Point{X: x, Y: y})
			xs, ys = append(xs, p.X), append(ys, p.Y)
		}
	}
	x, y := slices.Min(xs), slices.Min(ys)
	return api.Box{X: x, Y: y, W: slices.Max(xs) - x + 1, H: slices.Max(ys) - y + 1}
}

// positionsOf returns the positions of a small box.
func positionsOf(b api.Box) []api.Point {
	var list []api.Point
	for i := range b.W * b.H {
		list = append(list, api.Point{X: b.X + i%b.W, Y: b.Y + i/b.W})
	}
	return list
}

// smallBoxes returns valid boxes of all sizes up to 5, at the origin, at random and at the limits.
func smallBoxes() []api.Box {
	rng := rand.New(rand.NewSource(41))
	var list []api.Box
	for w := 1; w <= 5; w++ {
		for h := 1; h <= 5; h++ {
			list = append(list,
				api.Box{W: w, H: h},
				api.Box{X: rng.Intn(21) - 10, Y: rng.Intn(21) - 10, W: w, H: h},
				api.Box{X: most + 1 - w, Y: -most, W: w, H: h},
				api.Box{X: -most, Y: most + 1 - h, W: w, H: h})
		}
	}
	return list
}

// elements returns the symmetries of a set, which has the bit k for the symmetry k.
func elements(set int) []int {
	var list []int
	for k := range 8 {
		if set>>k&1 == 1 {
			list = append(list, k)
		}
	}
	return list
}

// isGroup reports whether a set contains 0 and all compositions.
func isGroup(set int) bool {
	for _, a := range elements(set) {
		for _, b := range elements(set) {
			if set>>composed(a, b)&1 == 0 {
				return false
			}
		}
	}
	return set&1 == 1
}

// allGroups returns all groups of symmetries, as sets.
func allGroups() []int {
	var list []int
	for set := range 1 << 8 {
		if isGroup(set) {
			list = append(list, set)
		}
	}
	return list
}

// groupOf returns the smallest of some groups that contains symmetries.
func groupOf(groups []int, l []int) []int {
	needed := 0
	for _, k := range l {
		needed |= 1 << remainder(k)
	}
	var least []int
	for _, set := range groups {
		if list := elements(set); set&needed == needed && (least == nil || len(list) < len(least)) {
			least = list
		}
	}
	return least
}

// orbitsOf returns the numbers of the first positions to which the symmetries of a group move the positions of a box, which is
// moved back to (0, 0) after each of them.
func orbitsOf(group []int, w, h int) []int {
	var list []int
	for _, p := range positionsOf(api.Box{W: w, H: h}) {
		var reached []int
		for _, k := range group {
			q, b := imageOf(k, p), turnedBox(k, api.Box{W: w, H: h})
			reached = append(reached, (q.Y-b.Y)*w+q.X-b.X)
		}
		list = append(list, slices.Min(reached))
	}
	return list
}

// unchanged runs a call with a list and reports whether it left the list, and what lies behind it in memory, as they were.
func unchanged(t *testing.T, l []int, call func(l []int)) {
	t.Helper()
	memory := append(slices.Clone(l), 77, -77)
	before := slices.Clone(memory)
	call(memory[:len(l)])
	if !slices.Equal(memory, before) {
		t.Errorf("a call changed the list %v to %v", before, memory)
	}
}
