package direct_test

import (
	"math/rand"
	"slices"
	"testing"

	"cellular/api"
	"cellular/hood"
	"cellular/notation"
	"cellular/pattern"
)

// someCells returns cells at the limits of the valid positions, near them and near the origin.
func someCells() []api.Point {
	l := []api.Point{{}, {X: 1}, {X: -5, Y: 7}, {X: 1000, Y: -70000}}
	for _, x := range []int{-most, 2 - most, 0, most - 1, most} {
		for _, y := range []int{-most, 1 - most, 3, most - 2, most} {
			l = append(l, api.Point{X: x, Y: y})
		}
	}
	return l
}

// P20.1: a rule that reads a single offset, for each offset and each state.
func TestNextOffsetAlone(t *testing.T) {
	for _, d := range hood.Moore(2) {
		for states := 2; states <= api.MaxStates; states++ {
			own := copying(states, d.X, d.Y)
			for _, at := range someCells() {
				s := 1 + (at.X&7+at.Y&7)%(states-1)
				p := api.Pattern{{X: at.X, Y: at.Y, S: s}}
				for _, near := range hood.Moore(2) {
					// The cell (x, y) reads the cell (x + dx, y + dy).
					x, y := at.X-near.X, at.Y-near.Y
					switch {
					case !isPlace(x, y):
						checkNext(t, own, p, x, y, 0, api.ErrRange)
					case near == d:
						checkNext(t, own, p, x, y, s, api.OK)
					default:
						checkNext(t, own, p, x, y, 0, api.OK)
					}
				}
			}
		}
	}
}

// P20.1: rules that read one offset of a neighbourhood, in its order, where all cells around have different states.
func TestNextOffsetOfHood(t *testing.T) {
	for _, l := range allHoods() {
		for _, states := range []int{2, 5, 8} {
			for k, d := range l {
				own := reading(states, l, k)
				for _, at := range []api.Point{{}, {X: most - 3, Y: 3 - most}} {
					p := block(at.X-3, at.Y-3, 7, 7, states)
					for _, near := range hood.Moore(1) {
						x, y := at.X+near.X, at.Y+near.Y
						checkNext(t, own, p, x, y, 1+((y+d.Y-at.Y+3)*7+x+d.X-at.X+3)%(states-1), api.OK)
					}
				}
			}
		}
	}
}

// P20.1: the states are given to the rule in the order of the neighbourhood, each of which has another weight than those near it.
func TestNextOrder(t *testing.T) {
	rng := rand.New(rand.NewSource(201))
	for _, l := range allHoods() {
		own := machine{0, func(memory, position, state int) int { return (3*memory + state) % 7 }, same}.rule(8, l)
		for range 50 {
			p := randomPattern(rng, -3, -3, 30, 7, 8)
			x, y := rng.Intn(7)-3, rng.Intn(7)-3
			checkNext(t, own, p, x, y, mapOf(p).next(own, x, y), api.OK)
		}
	}
}

// P20.1: cells whose neighbourhood leaves the valid positions, where all cells are 0.
func TestNextAtLimits(t *testing.T) {
	for _, l := range allHoods() {
		for _, states := range []int{2, 3, 8} {
			for _, own := range []rule{summing(states, l), greatest(states, l)} {
				for _, c := range []api.Box{
					{X: -most, Y: -most}, {X: -4, Y: -most}, {X: most - 8, Y: -most}, {X: -most, Y: -4}, {X: most - 8, Y: -4}, {X: -most, Y: most - 8},
					{X: -4, Y: most - 8}, {X: most - 8, Y: most - 8},
				} {
					p := block(c.X, c.Y, 9, 9, states)
					m := mapOf(p)
					for x := c.X; x < c.X+9; x += 2 {
						for y := c.Y; y < c.Y+9; y += 2 {
							checkNext(t, own, p, x, y, m.next(own, x, y), api.OK)
						}
					}
				}
			}
		}
	}
}

// P20.1: cells near the end of a row do not read those of the next row, nor those at the other end of their own one.
func TestNextAtOtherEnd(t *testing.T) {
	p := cells(api.Cell{X: most, Y: -1, S: 1}, api.Cell{X: -most, S: 2}, api.Cell{X: -most, Y: 1, S: 4}, api.Cell{X: 0, Y: most, S: 3},
		api.Cell{X: most, Y: 3, S: 6})
	own := summing(8, hood.Moore(2))
	for _, c := range []api.Cell{
		{X: most, Y: 0, S: 1}, {X: most - 2, Y: -2, S: 1}, {X: most, Y: 1, S: 7}, {X: most, Y: 2, S: 6}, {X: -most, Y: -1, S: 6},
		{X: -most, Y: -2, S: 2}, {X: -most, Y: 3, S: 4}, {X: 2 - most, Y: 2, S: 6}, {X: 3 - most, Y: 0, S: 0}, {X: 0, Y: -most, S: 0},
		{X: 0, Y: most - 2, S: 3}, {X: 0, Y: 1 - most, S: 0}, {X: most - 3, Y: 0, S: 0}, {X: -most, Y: most, S: 0},
	} {
		checkNext(t, own, p, c.X, c.Y, c.S, api.OK)
	}
}

// P20.1: cells far away from a pattern remain 0, as do all cells of the empty one.
func TestNextFarAway(t *testing.T) {
	for _, l := range allHoods() {
		for states := 2; states <= api.MaxStates; states++ {
			own := greatest(states, l)
			for _, at := range someCells() {
				checkNext(t, own, nil, at.X, at.Y, 0, api.OK)
				checkNext(t, own, api.Pattern{}, at.X, at.Y, 0, api.OK)
				for _, d := range []int{3, 4, 255, 1 << 16, 1 << 20, 1<<21 - 1} {
					for _, by := range []api.Point{{X: d}, {Y: d}, {X: d, Y: d}, {X: -d}, {Y: -d}, {X: -d, Y: d}, {X: d, Y: 1}} {
						if x, y := at.X+by.X, at.Y+by.Y; isPlace(x, y) {
							checkNext(t, own, api.Pattern{{X: at.X, Y: at.Y, S: states - 1}}, x, y, 0, api.OK)
						}
					}
				}
			}
		}
	}
}

// P20.1: positions that are not valid, even if they have a cell of the pattern in their neighbourhood.
func TestNextPositions(t *testing.T) {
	for _, p := range []api.Pattern{
		nil, ones(0, 0, glider), {{X: -most, Y: -most, S: 1}, {X: most, Y: -most, S: 1}, {X: -most, Y: most, S: 1}, {X: most, Y: most, S: 1}},
	} {
		for _, l := range [][]api.Point{hood.Moore(2), drawn(far), drawn(beside)} {
			own := greatest(2, l)
			for _, x := range ints {
				for _, y := range ints {
					want, wanted := 0, api.ErrRange
					if isPlace(x, y) {
						want, wanted = mapOf(p).next(own, x, y), api.OK
					}
					checkNext(t, own, p, x, y, want, wanted)
				}
			}
		}
	}
}

// P20.1: random rules with each number of states on all neighbourhoods, and random patterns.
func TestNextRandom(t *testing.T) {
	rng := rand.New(rand.NewSource(202))
	counts := make([]int, api.MaxStates)
	for _, l := range allHoods() {
		for states := 2; states <= api.MaxStates; states++ {
			for range 20 {
				own := randomRule(rng, states, l)
				at := someCells()[rng.Intn(4)]
				p := randomPattern(rng, at.X, at.Y, 20, 6, states)
				for range 10 {
					x, y := at.X+rng.Intn(10)-2, at.Y+rng.Intn(10)-2
					want := mapOf(p).next(own, x, y)
					counts[want]++
					checkNext(t, own, p, x, y, want, api.OK)
				}
			}
		}
	}
	if slices.Min(counts) < 50 {
		t.Error("the numbers of the new states are", counts)
	}
}

// P20.1: rules in several notations.
func TestNextNotations(t *testing.T) {
	for _, c := range []struct {
		rule    string
		p       api.Pattern
		x, y, s int
	}{
		{"B3/S23", ones(0, 0, "ooo"), 1, 1, 1},
		{"B3/S23", ones(0, 0, "ooo"), 1, -1, 1},
		{"B3/S23", ones(0, 0, "ooo"), 1, 0, 1},
		{"B3/S23", ones(0, 0, "ooo"), 0, 0, 0},
		{"B3/S23", ones(0, 0, "ooo"), 2, 1, 0},
		{"B2/S/C3", cells(api.Cell{S: 1}), 0, 0, 2},
		{"B2/S/C3", cells(api.Cell{S: 2}), 0, 0, 0},
		{"B2/S/C3", cells(api.Cell{S: 1}, api.Cell{X: 1, S: 1}), 0, 1, 1},
		{"B2/S/C3", cells(api.Cell{S: 1}, api.Cell{X: 1, S: 2}), 0, 1, 0},
		{"W90", cells(api.Cell{S: 1}), -1, 0, 1},
		{"W90", cells(api.Cell{S: 1}), 0, 0, 0},
		{"W90", cells(api.Cell{S: 1}), 1, 0, 1},
		{"W90", cells(api.Cell{S: 1}), 1, 1, 0},
		// A cell becomes the state of its left neighbour, or of its right one.
		{"W240", cells(api.Cell{S: 1}), 1, 0, 1},
		{"W240", cells(api.Cell{S: 1}), -1, 0, 0},
		{"W170", cells(api.Cell{S: 1}), -1, 0, 1},
		{"W170", cells(api.Cell{S: 1}), 1, 0, 0},
	} {
		own, e := notation.Parse(c.rule)
		if e != api.OK || !pattern.Right(c.p) {
			t.Fatalf("the rule %s is wrong, or the pattern %v", c.rule, c.p)
		}
		checkNext(t, rule{Tree: own}, c.p, c.x, c.y, c.s, api.OK)
	}
}
