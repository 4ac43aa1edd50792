package point_test

import (
	"math"
	"math/big"
	"math/rand"
	"slices"
	"testing"

	"cellular/api"
)

// The tests compare package point with a model that calculates with integers of any size, and with lists of all positions of a
// box.

const most = api.MaxCoord

// exact returns the value of a sum of products of two ints: a * b, c * d, ..
func exact(factors ...int) *big.Int {
	sum := new(big.Int)
	for i := 0; i < len(factors); i += 2 {
		sum.Add(sum, new(big.Int).Mul(big.NewInt(int64(factors[i])), big.NewInt(int64(factors[i+1]))))
	}
	return sum
}

// within reports whether a number is from low to high.
func within(n *big.Int, low, high int64) bool {
	return n.Cmp(big.NewInt(low)) >= 0 && n.Cmp(big.NewInt(high)) <= 0
}

// exactSide is the corner and the length of a box in one direction.
type exactSide struct{ from, n *big.Int }

// end returns the last coordinate of a side.
func (s exactSide) end() *big.Int {
	end := new(big.Int).Add(s.from, s.n)
	return end.Sub(end, big.NewInt(1))
}

// right reports whether there are coordinates, all of them valid.
func (s exactSide) right() bool {
	return s.n.Sign() > 0 && within(s.from, -most, most) && within(s.end(), -most, most)
}

// sidesOf returns both sides of a box.
func sidesOf(b api.Box) (x, y exactSide) {
	return exactSide{exact(b.X, 1), exact(b.W, 1)}, exactSide{exact(b.Y, 1), exact(b.H, 1)}
}

// isRight reports whether a box is valid.
func isRight(b api.Box) bool {
	x, y := sidesOf(b)
	return x.right() && y.right()
}

// isIn reports whether a box is valid and contains a position.
func isIn(b api.Box, p api.Point) bool {
	x, y := sidesOf(b)
	return isRight(b) && b.X <= p.X && exact(p.X, 1).Cmp(x.end()) <= 0 && b.Y <= p.Y && exact(p.Y, 1).Cmp(y.end()) <= 0
}

// grown returns what Grow has to return.
func grown(b api.Box, k int) (api.Box, api.Errno) {
	if !isRight(b) {
		return api.Box{}, api.ErrArg
	}
	x := exactSide{exact(b.X, 1, k, -1), exact(b.W, 1, k, 2)}
	y := exactSide{exact(b.Y, 1, k, -1), exact(b.H, 1, k, 2)}
	switch {
	case x.n.Sign() <= 0 || y.n.Sign() <= 0:
		return api.Box{}, api.ErrSize
	case !x.right() || !y.right():
		return api.Box{}, api.ErrRange
	}
	return api.Box{X: int(x.from.Int64()), Y: int(y.from.Int64()), W: int(x.n.Int64()), H: int(y.n.Int64())}, api.OK
}

// comesBefore reports whether a comes before b.
func comesBefore(a, b api.Point) bool {
	if a.Y != b.Y {
		return a.Y < b.Y
	}
	return a.X < b.X
}

// membersOf returns the positions of a small valid box in order.
func membersOf(b api.Box) []api.Point {
	var list []api.Point
	for y := b.Y; y < b.Y+b.H; y++ {
		for x := b.X; x < b.X+b.W; x++ {
			list = append(list, api.Point{X: x, Y: y})
		}
	}
	return list
}

// covering returns the least box that contains positions, found column by column and row by row.
func covering(l []api.Point) api.Box {
	var xs, ys []int
	for _, p := range l {
		xs, ys = append(xs, p.X), append(ys, p.Y)
	}
	slices.Sort(xs)
	slices.Sort(ys)
	n := len(l) - 1
	return api.Box{X: xs[0], Y: ys[0], W: xs[n] - xs[0] + 1, H: ys[n] - ys[0] + 1}
}

// allInts are coordinates and lengths at the limits, around them, and at the limits of int.
var allInts = []int{
	math.MinInt, math.MinInt + 1, math.MinInt / 2, math.MinInt32, -2*most - 2, -2*most - 1, -2 * most, -most - 1, -most, -most + 1,
	-2, -1, 0, 1, 2, 3, most - 1, most, most + 1, most + 2, 2 * most, 2*most + 1, 2*most + 2, math.MaxInt32, math.MaxInt / 2,
	math.MaxInt/2 + 1, math.MaxInt - most, math.MaxInt - 1, math.MaxInt,
}

// someInts are those that are combined with each other four times.
var someInts = []int{math.MinInt, -most - 1, -most, -1, 0, 1, 2, most, most + 1, 2*most + 1, 2*most + 2, math.MaxInt}

// wrongBoxes are boxes that are not valid.
var wrongBoxes = []api.Box{
	{}, {W: 1}, {H: 1}, {W: -1, H: 1}, {W: 1, H: -1}, {W: -1, H: -1}, {W: 2, H: math.MinInt},
	{X: most, W: 2, H: 1}, {Y: most, W: 1, H: 2}, {X: -most - 1, W: 5, H: 1}, {Y: -most - 1, W: 1, H: 5},
	{X: most + 1, W: 1, H: 1}, {Y: most + 1, W: 1, H: 1}, {X: -most, W: 2*most + 2, H: 1}, {Y: -most, W: 1, H: 2*most + 2},
	{X: 1, W: math.MaxInt, H: 1}, {Y: 1, W: 1, H: math.MaxInt}, {X: math.MaxInt, Y: math.MaxInt, W: math.MaxInt, H: math.MaxInt},
	{X: math.MinInt, Y: math.MinInt, W: math.MinInt, H: math.MinInt}, {X: math.MinInt, W: math.MaxInt, H: 1},
}

// edgeBoxes are valid boxes at the limits.
var edgeBoxes = []api.Box{
	{X: -most, Y: -most, W: 2*most + 1, H: 2*most + 1}, {X: -most, Y: -most, W: 1, H: 1}, {X: most, Y: most, W: 1, H: 1},
	{X: most, Y: -most, W: 1, H: 2*most + 1}, {X: -most, Y: most, W: 2*most + 1, H: 1}, {X: most - 4, Y: most - 2, W: 5, H: 3},
	{W: most + 1, H: most + 1},
}

// everyBox calls f for each box of which the values are among those of someInts.
func everyBox(f func(b api.Box)) {
	for _, x := range someInts {
		for _, y := range someInts {
			for _, w := range someInts {
				for _, h := range someInts {
					f(api.Box{X: x, Y: y, W: w, H: h})
				}
			}
		}
	}
}

// smallBoxes returns random valid boxes close to each other.
func smallBoxes(rng *rand.Rand, n int) []api.Box {
	list := make([]api.Box, n)
	for i := range list {
		list[i] = api.Box{X: rng.Intn(13) - 6, Y: rng.Intn(13) - 6, W: 1 + rng.Intn(7), H: 1 + rng.Intn(7)}
	}
	return list
}

// moved returns a box that is moved.
func moved(b api.Box, dx, dy int) api.Box {
	return api.Box{X: b.X + dx, Y: b.Y + dy, W: b.W, H: b.H}
}

// unchanged runs a call with a list and reports whether it left the list, and what lies behind it in memory, as they were.
func unchanged(t *testing.T, l []api.Point, call func(l []api.Point)) {
	t.Helper()
	behind := api.Point{X: 77, Y: -77}
	memory := append(slices.Clone(l), behind, behind)
	before := slices.Clone(memory)
	call(memory[:len(l)])
	if !slices.Equal(memory, before) {
		t.Errorf("a call changed the list %v to %v", before, memory)
	}
}
