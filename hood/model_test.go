package hood_test

import (
	"cmp"
	"math"
	"math/rand"
	"slices"
	"testing"

	"cellular/api"
)

// The tests compare package hood with a model that goes through all 25 offsets in order, and makes one quarter turn after the
// other.

const (
	greatest = api.MaxRadius
	beyond   = api.MaxRadius + 1
)

// coords are coordinates, also at the limits of offsets, of valid positions and of int.
var coords = []int{
	math.MinInt, math.MinInt + 1, math.MinInt32, -api.MaxCoord, -beyond, -greatest, -1, 0, 1, greatest, beyond, api.MaxCoord,
	math.MaxInt32, math.MaxInt - 1, math.MaxInt,
}

// radii are arguments of Moore and Neumann, also at the limits of int.
var radii = []int{math.MinInt, math.MinInt + 1, -100, -3, -2, -1, 0, 1, 2, 3, 4, 5, 100, 1 << 32, math.MaxInt - 1, math.MaxInt}

// everyOffset returns the offsets that a neighbourhood may have, in order.
func everyOffset() []api.Point {
	var list []api.Point
	for i := range 25 {
		list = append(list, api.Point{X: i%5 - 2, Y: i/5 - 2})
	}
	return list
}

// isHood reports whether a list is a valid neighbourhood: not empty, and the same as all offsets that it contains, in order.
func isHood(l []api.Point) bool {
	var had []api.Point
	for _, p := range everyOffset() {
		if slices.Contains(l, p) {
			had = append(had, p)
		}
	}
	return len(l) > 0 && slices.Equal(had, l)
}

// distance returns the absolute value of a coordinate of an offset.
func distance(c int) int {
	if c < 0 {
		return -c
	}
	return c
}

// mooreModel returns what Moore has to return.
func mooreModel(r int) []api.Point {
	return slices.DeleteFunc(everyOffset(), func(p api.Point) bool {
		return r > 2 || distance(p.X) > r || distance(p.Y) > r
	})
}

// neumannModel returns what Neumann has to return.
func neumannModel(r int) []api.Point {
	return slices.DeleteFunc(everyOffset(), func(p api.Point) bool { return r > 2 || distance(p.X)+distance(p.Y) > r })
}

// hexModel returns what Hex has to return.
func hexModel() []api.Point {
	return []api.Point{{X: -1, Y: -1}, {Y: -1}, {X: -1}, {}, {X: 1}, {Y: 1}, {X: 1, Y: 1}}
}

// radiusModel returns what Radius has to return: the least radius of a square that contains the neighbourhood.
func radiusModel(l []api.Point) int {
	if !isHood(l) {
		return 0
	}
	r := 0
	for slices.ContainsFunc(l, func(p api.Point) bool { return !slices.Contains(mooreModel(r), p) }) {
		r++
	}
	return r
}

// centreModel returns what Centre has to return.
func centreModel(l []api.Point) int {
	if isHood(l) {
		for i, p := range l {
			if p.X == 0 && p.Y == 0 {
				return i
			}
		}
	}
	return -1
}

// imageOf returns the image of an offset, turn by turn.
func imageOf(k int, p api.Point) api.Point {
	if k >= 4 {
		p.X = -p.X
	}
	for range k % 4 {
		p.X, p.Y = -p.Y, p.X
	}
	return p
}

// symsModel returns what Syms has to return. As the images of different offsets are different, the image of a set is the set
// itself if it contains each of them.
func symsModel(l []api.Point) []int {
	var list []int
	for k := range 8 {
		leaves := func(p api.Point) bool { return !slices.Contains(l, imageOf(k, p)) }
		if isHood(l) && !slices.ContainsFunc(l, leaves) {
			list = append(list, k)
		}
	}
	return list
}

// sameModel returns what Same has to return.
func sameModel(a, b []api.Point) bool {
	for i := range max(len(a), len(b)) {
		if i >= len(a) || i >= len(b) || a[i].X != b[i].X || a[i].Y != b[i].Y {
			return false
		}
	}
	return true
}

// subset returns those of some offsets whose bit is set.
func subset(of []api.Point, bits int) []api.Point {
	var list []api.Point
	for i, p := range of {
		if bits>>i&1 == 1 {
			list = append(list, p)
		}
	}
	return list
}

// closed returns the offsets of a list and all their images under some symmetries, in order.
func closed(l []api.Point, syms []int) []api.Point {
	return slices.DeleteFunc(everyOffset(), func(p api.Point) bool {
		return !slices.ContainsFunc(syms, func(k int) bool { return slices.Contains(l, imageOf(k, p)) })
	})
}

// groups are all groups of symmetries. The inverse of each of their elements is one, too.
var groups = [][]int{
	{0}, {0, 2}, {0, 4}, {0, 5}, {0, 6}, {0, 7}, {0, 1, 2, 3}, {0, 2, 4, 6}, {0, 2, 5, 7}, {0, 1, 2, 3, 4, 5, 6, 7},
}

// someHoods returns valid neighbourhoods: all with the radius 1 or less, all with one offset, all with all offsets but one, and
// others of all numbers of offsets and with all groups of symmetries.
func someHoods() [][]api.Point {
	rng := rand.New(rand.NewSource(7))
	var list [][]api.Point
	for bits := 1; bits < 1<<9; bits++ {
		list = append(list, subset(mooreModel(1), bits))
	}
	every := everyOffset()
	for i := range every {
		list = append(list, subset(every, 1<<i), subset(every, 1<<25-1-1<<i), every[:i+1], every[i:])
	}
	for range 500 {
		l := subset(every, rng.Intn(1<<25-1)+1)
		few := subset(every, 1<<rng.Intn(25)|1<<rng.Intn(25))
		list = append(list, l)
		for _, group := range groups {
			list = append(list, closed(few, group))
		}
	}
	return list
}

// wrongLists returns lists that are no valid neighbourhoods.
func wrongLists() [][]api.Point {
	list := [][]api.Point{
		nil, {},
		// Out of order, by X alone, by Y alone and by both.
		{{X: 1}, {}}, {{X: 2, Y: 1}, {X: 1, Y: 1}}, {{X: -1}, {X: 1}, {}}, {{Y: -2}, {X: -1, Y: -2}, {X: 2, Y: 2}},
		{{Y: 1}, {}}, {{X: 2, Y: 2}, {X: 2, Y: -2}}, {{X: -1, Y: 1}, {X: 1}}, {{Y: -1}, {Y: 1}, {}}, {{X: -2, Y: 2}, {X: 2, Y: -2}},
		{{X: 1, Y: 1}, {X: -1, Y: -1}},
		// An offset twice, side by side and apart.
		{{}, {}}, {{X: 1}, {X: 1}}, {{X: -1}, {}, {}, {X: 1}}, {{X: -1}, {}, {X: -1}}, {{}, {X: 1}, {}},
		{{X: -2, Y: -2}, {X: 2, Y: 2}, {X: 2, Y: 2}}, {{X: -2, Y: -2}, {X: -2, Y: -2}, {X: 2, Y: 2}},
		// Beyond the greatest radius, at the beginning, in between and at the end.
		{{X: -beyond}}, {{X: beyond}}, {{Y: -beyond}}, {{Y: beyond}}, {{X: beyond, Y: beyond}}, {{X: -beyond, Y: -beyond}},
		{{Y: -beyond}, {}, {X: 1}}, {{X: -beyond}, {}, {X: 1}}, {{X: beyond, Y: -1}, {}, {X: 1}},
		{{Y: -1}, {X: beyond, Y: -1}, {}}, {{Y: -1}, {X: -beyond}, {}}, {{}, {X: 1}, {X: beyond}}, {{}, {X: 1}, {Y: beyond}},
		// Coordinates at the limits of int.
		{{X: math.MinInt}}, {{X: math.MaxInt}}, {{Y: math.MinInt}}, {{Y: math.MaxInt}}, {{X: math.MinInt}, {}, {X: math.MaxInt}},
		{{X: math.MaxInt}, {}, {X: math.MinInt}}, {{Y: math.MinInt}, {}, {Y: math.MaxInt}}, {{}, {X: math.MaxInt}}, {{X: math.MinInt}, {}},
	}
	return append(list, tooLong()...)
}

// tooLong returns lists of more than MaxHood offsets.
func tooLong() [][]api.Point {
	every := everyOffset()
	with := func(i int, p api.Point) []api.Point { return slices.Insert(slices.Clone(every), i, p) }
	return [][]api.Point{
		with(25, api.Point{X: greatest, Y: greatest}), with(0, api.Point{X: -greatest, Y: -greatest}), with(12, api.Point{}),
		with(25, api.Point{X: beyond, Y: greatest}), with(0, api.Point{X: -beyond, Y: -greatest}), with(25, api.Point{Y: beyond}),
		with(0, api.Point{Y: -beyond}), with(25, api.Point{}), slices.Repeat(every, 2), make([]api.Point, api.MaxHood+1),
		make([]api.Point, 100000),
	}
}

// someLists returns lists of offsets near the limits, in any order, most of them no valid neighbourhoods.
func someLists(rng *rand.Rand, n int) [][]api.Point {
	var list [][]api.Point
	for i := range n {
		l := make([]api.Point, rng.Intn(5))
		for k := range l {
			l[k] = api.Point{X: rng.Intn(6) - 3, Y: rng.Intn(6) - 3}
			if i%4 == 0 {
				l[k].X = coords[rng.Intn(len(coords))]
			}
		}
		if i%2 == 0 {
			slices.SortFunc(l, func(p, q api.Point) int { return cmp.Or(cmp.Compare(p.Y, q.Y), cmp.Compare(p.X, q.X)) })
		}
		list = append(list, l)
	}
	return list
}

// short returns the beginning of a list, for messages.
func short(l []api.Point) []api.Point {
	return l[:min(len(l), 30)]
}

// unchanged runs a call with a list and reports whether it left the list, and what lies behind it in memory, as they were.
func unchanged(t *testing.T, l []api.Point, call func(l []api.Point)) {
	t.Helper()
	memory := append(slices.Clone(l), api.Point{X: 77, Y: -77}, api.Point{X: -77, Y: 77})
	before := slices.Clone(memory)
	call(memory[:len(l)])
	if !slices.Equal(memory, before) {
		t.Errorf("a call changed the list %v to %v", short(before), short(memory))
	}
}
