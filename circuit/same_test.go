package circuit_test

import (
	"math"
	"math/rand"
	"slices"
	"testing"

	"cellular/api"
	"cellular/circuit"
)

// checkSame compares Same with the expected result, in both orders.
func checkSame(t *testing.T, a, b api.Circuit, want bool) {
	t.Helper()
	if sameModel(a, b) != want {
		t.Errorf("the model tells %v of the circuits %s and %s", !want, show(a), show(b))
	}
	unchanged(t, a, func(a api.Circuit) {
		unchanged(t, b, func(b api.Circuit) {
			if circuit.Same(a, b) != want || circuit.Same(b, a) != want {
				t.Errorf("Same(%s, %s) is not %v", show(a), show(b), want)
			}
		})
	})
}

// changes returns circuits that differ from one in one number, in the length of one list, or in the order of something.
func changes(own api.Circuit) []api.Circuit {
	var list []api.Circuit
	change := func(how func(c *api.Circuit)) {
		other := laidOut(own)
		how(&other)
		list = append(list, other)
	}
	for _, by := range []int{1, -1, 256, 1 << 16, 1 << 32, math.MinInt} {
		change(func(c *api.Circuit) { c.Inputs += by })
		for i := range own.Gates {
			change(func(c *api.Circuit) { c.Gates[i].Op += by })
			change(func(c *api.Circuit) { c.Gates[i].A += by })
			change(func(c *api.Circuit) { c.Gates[i].B += by })
		}
		for i := range own.Outs {
			change(func(c *api.Circuit) { c.Outs[i] += by })
		}
	}
	change(func(c *api.Circuit) { c.Gates = c.Gates[1:] })
	change(func(c *api.Circuit) { c.Gates = c.Gates[:len(c.Gates)-1] })
	change(func(c *api.Circuit) { c.Gates = append(c.Gates, api.Gate{}) })
	change(func(c *api.Circuit) { c.Gates = nil })
	change(func(c *api.Circuit) { c.Outs = c.Outs[1:] })
	change(func(c *api.Circuit) { c.Outs = c.Outs[:len(c.Outs)-1] })
	change(func(c *api.Circuit) { c.Outs = append(c.Outs, 0) })
	change(func(c *api.Circuit) { c.Outs = append(c.Outs, c.Outs[0]) })
	change(func(c *api.Circuit) { c.Outs = nil })
	// The same numbers in another order, or in other places.
	change(func(c *api.Circuit) { slices.Reverse(c.Gates) })
	change(func(c *api.Circuit) { slices.Reverse(c.Outs) })
	for i := range own.Gates {
		change(func(c *api.Circuit) { c.Gates[i].A, c.Gates[i].B = c.Gates[i].B, c.Gates[i].A })
		change(func(c *api.Circuit) { c.Gates[i].Op, c.Gates[i].A = c.Gates[i].A, c.Gates[i].Op })
	}
	return list
}

// P17.6: circuits that are equal, and others that differ in one element or in one length.
func TestSame(t *testing.T) {
	for _, own := range []api.Circuit{
		made(3, []api.Gate{and(0, 1), or(3, 2), xor(1, 4)}, 5, 3, 0),
		made(2, []api.Gate{xor(0, 1), and(1, 0)}, 2, 3),
		made(7, []api.Gate{{Op: 8, A: 9, B: -10}, {Op: -11, A: 12, B: 13}, {Op: 14, A: -15, B: 16}}, 17, -18),
	} {
		checkSame(t, own, own, true)
		checkSame(t, own, laidOut(own), true)
		list := changes(own)
		for i, other := range list {
			checkSame(t, own, other, false)
			checkSame(t, other, laidOut(other), true)
			for _, third := range list[:i] {
				checkSame(t, other, third, sameModel(other, third))
			}
		}
	}
}

// P17.6: each element of the lists of a circuit at the limits.
func TestSameLarge(t *testing.T) {
	rng := rand.New(rand.NewSource(186))
	a := largest(rng)
	b := laidOut(a)
	checkSame(t, a, b, true)
	for i := range b.Outs {
		b.Outs[i]++
		if circuit.Same(a, b) || circuit.Same(b, a) {
			t.Errorf("another output %d makes no difference", i)
		}
		b.Outs[i]--
	}
	for range 300 {
		g := &b.Gates[rng.Intn(20000)]
		for _, field := range []*int{&g.Op, &g.A, &g.B} {
			*field ^= 1
			if circuit.Same(a, b) || circuit.Same(b, a) {
				t.Errorf("another number in the gate %+v makes no difference", *g)
			}
			*field ^= 1
		}
	}
	for _, i := range []int{0, 1, 9999, 19998, 19999} {
		other := laidOut(a)
		other.Gates[i].B--
		checkSame(t, a, other, false)
	}
	other := laidOut(a)
	other.Gates = append(other.Gates, zero)
	checkSame(t, a, other, false)
	checkSame(t, a, b, true)
}

// P17.6: circuits with the same values are equal only if their elements are.
func TestSameValues(t *testing.T) {
	list := []api.Circuit{
		made(2, []api.Gate{and(0, 1)}, 2), made(2, []api.Gate{and(1, 0)}, 2), made(2, []api.Gate{and(0, 1), zero}, 2),
		made(2, []api.Gate{zero, and(0, 1)}, 3), made(2, []api.Gate{and(0, 1), and(0, 1)}, 2), made(2, []api.Gate{and(0, 1), and(0, 1)}, 3),
		made(2, []api.Gate{and(0, 1)}, 2, 2), made(3, []api.Gate{and(0, 1)}, 3), made(2, []api.Gate{and(0, 1), and(2, 2)}, 3),
		made(2, []api.Gate{not(0), not(1), or(2, 3), not(4)}, 5), made(2, []api.Gate{not(1), not(0), or(2, 3), not(4)}, 5),
	}
	for i, a := range list {
		for k, b := range list {
			checkSame(t, a, b, i == k)
		}
	}
}

// P17.6: lists that are nil are equal to empty ones.
func TestSameEmpty(t *testing.T) {
	none, empty := api.Circuit{}, api.Circuit{Gates: []api.Gate{}, Outs: []int{}}
	for _, a := range []api.Circuit{none, empty, {Gates: []api.Gate{}}, {Outs: []int{}}} {
		for _, b := range []api.Circuit{none, empty, {Gates: []api.Gate{}}, {Outs: []int{}}} {
			checkSame(t, a, b, true)
			b.Inputs = 1
			checkSame(t, a, b, false)
		}
		checkSame(t, a, api.Circuit{Gates: []api.Gate{{}}}, false)
		checkSame(t, a, api.Circuit{Outs: []int{0}}, false)
	}
	checkSame(t, api.Circuit{Gates: []api.Gate{one}}, api.Circuit{Gates: []api.Gate{one}, Outs: []int{}}, true)
	checkSame(t, api.Circuit{Outs: []int{3}}, api.Circuit{Gates: []api.Gate{}, Outs: []int{3}}, true)
	checkSame(t, api.Circuit{Gates: []api.Gate{zero}}, api.Circuit{Gates: []api.Gate{zero, zero}}, false)
	checkSame(t, api.Circuit{Outs: []int{0}}, api.Circuit{Outs: []int{0, 0}}, false)
}

// P17.6: circuits that are not valid are compared as others are.
func TestSameInvalid(t *testing.T) {
	list := append(wrong(), made(1001, nil), made(0, slices.Repeat([]api.Gate{one}, 20002)), made(0, nil, make([]int, 1002)...))
	for _, n := range ints {
		list = append(list, made(n, nil), made(0, []api.Gate{{Op: n}}), made(0, []api.Gate{{A: n}}), made(0, []api.Gate{{B: n}}), made(0, nil, n),
			made(0, []api.Gate{one, {Op: n}}), made(0, nil, 1, n))
	}
	for i, a := range list {
		checkSame(t, a, laidOut(a), true)
		for _, b := range list[:i] {
			if want := sameModel(a, b); circuit.Same(a, b) != want || circuit.Same(b, a) != want {
				t.Errorf("Same(%s, %s) is not %v", show(a), show(b), want)
			}
		}
	}
}

// P17.6: random circuits, valid and not, which are equal just if all their numbers are.
func TestSameRandom(t *testing.T) {
	rng := rand.New(rand.NewSource(187))
	counts := map[bool]int{}
	for range 3000 {
		a := randomCircuit(rng, rng.Intn(2), rng.Intn(2), rng.Intn(2))
		b := randomCircuit(rng, rng.Intn(2), rng.Intn(2), rng.Intn(2))
		counts[sameModel(a, b)]++
		checkSame(t, a, b, sameModel(a, b))
		c := broken(rng, a)
		checkSame(t, a, c, sameModel(a, c))
	}
	if counts[true] < 100 || counts[false] < 100 {
		t.Error("the numbers of pairs are", counts)
	}
}
