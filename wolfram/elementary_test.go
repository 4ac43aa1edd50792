package wolfram_test

import (
	"math"
	"testing"

	"cellular/api"
	"cellular/wolfram"
)

// P10.1
func TestElementaryExamples(t *testing.T) {
	for n, want := range map[int][8]int{
		0:   {},
		1:   {1},
		2:   {0, 1},
		4:   {0, 0, 1},
		8:   {0, 0, 0, 1},
		16:  {0, 0, 0, 0, 1},
		32:  {0, 0, 0, 0, 0, 1},
		64:  {0, 0, 0, 0, 0, 0, 1},
		128: {0, 0, 0, 0, 0, 0, 0, 1},
		30:  {0, 1, 1, 1, 1, 0, 0, 0},
		90:  {0, 1, 0, 1, 1, 0, 1, 0},
		110: {0, 1, 1, 1, 0, 1, 1, 0},
		254: {0, 1, 1, 1, 1, 1, 1, 1},
		255: {1, 1, 1, 1, 1, 1, 1, 1},
	} {
		if l, e := wolfram.Elementary(n); l != want || e != api.OK {
			t.Errorf("Elementary(%d) is %v and the error %d", n, l, e)
		}
		if got, e := wolfram.Number(want); got != n || e != api.OK {
			t.Errorf("Number(%v) is %d and the error %d, not %d", want, got, e, n)
		}
	}
}

// P10.1: the bit left * 4 + centre * 2 + right of the number is the new state.
func TestElementaryOfEachRule(t *testing.T) {
	twice(t, func(t *testing.T) {
		for n := range 256 {
			l, e := wolfram.Elementary(n)
			if want, _ := elementaryModel(n); l != want || e != api.OK {
				t.Errorf("Elementary(%d) is %v and the error %d, not %v", n, l, e, want)
			}
		}
	})
}

// P10.1, P10.2: numbers that are no elementary rules, and some that are.
func TestElementaryRange(t *testing.T) {
	for _, n := range ints {
		want := api.OK
		if n < 0 || n > 255 {
			want = api.ErrRange
		}
		if l, e := wolfram.Elementary(n); e != want || e != api.OK && l != [8]int{} {
			t.Errorf("Elementary(%d) is %v and the error %d, not %d", n, l, e, want)
		}
		if k, e := wolfram.Mirror(n); e != want || e != api.OK && k != 0 {
			t.Errorf("Mirror(%d) is %d and the error %d, not %d", n, k, e, want)
		}
		if k, e := wolfram.Conjugate(n); e != want || e != api.OK && k != 0 {
			t.Errorf("Conjugate(%d) is %d and the error %d, not %d", n, k, e, want)
		}
	}
}

// P10.1: all lists of states of two states.
func TestNumberOfAllLists(t *testing.T) {
	twice(t, func(t *testing.T) {
		for i := range 1 << 8 {
			var l [8]int
			want := 0
			for place := range l {
				if i&(1<<place) != 0 {
					l[place] = 1
					want += 1 << place
				}
			}
			if n, e := wolfram.Number(l); n != want || e != api.OK {
				t.Errorf("Number(%v) is %d and the error %d, not %d", l, n, e, want)
			}
		}
	})
}

// P10.1: one element that is no state of two states, or two of them, in each of the 256 lists.
func TestNumberState(t *testing.T) {
	for n := range 256 {
		for place := range 8 {
			for _, state := range ints {
				l, _ := elementaryModel(n)
				l[place] = state
				checkNumber(t, l)
				l[(place+n)%8] = -state
				checkNumber(t, l)
			}
		}
	}
	for _, state := range []int{-1, 2, math.MinInt, math.MaxInt} {
		for place := range 8 {
			var l [8]int
			l[place] = state
			if n, e := wolfram.Number(l); n != 0 || e != api.ErrState {
				t.Errorf("Number(%v) is %d and the error %d", l, n, e)
			}
		}
	}
}

// checkNumber compares Number with the model.
func checkNumber(t *testing.T, l [8]int) {
	t.Helper()
	got, e := wolfram.Number(l)
	if want, expected := numberModel(l); got != want || e != expected {
		t.Errorf("Number(%v) is %d and the error %d, not %d and %d", l, got, e, want, expected)
	}
}

// P10.2
func TestMirrorAndConjugateExamples(t *testing.T) {
	for _, c := range []struct{ n, mirror, conjugate int }{
		{0, 0, 255}, {255, 255, 0}, {110, 124, 137}, {30, 86, 135}, {90, 90, 165}, {2, 16, 191}, {8, 64, 239}, {1, 1, 127}, {4, 4, 223},
		{32, 32, 251}, {128, 128, 254}, {170, 240, 170}, {204, 204, 204}, {184, 226, 226}, {150, 150, 150}, {54, 54, 147},
	} {
		if n, e := wolfram.Mirror(c.n); n != c.mirror || e != api.OK {
			t.Errorf("Mirror(%d) is %d and the error %d, not %d", c.n, n, e, c.mirror)
		}
		if n, e := wolfram.Conjugate(c.n); n != c.conjugate || e != api.OK {
			t.Errorf("Conjugate(%d) is %d and the error %d, not %d", c.n, n, e, c.conjugate)
		}
	}
}

// P10.2
func TestMirrorAndConjugateOfEachRule(t *testing.T) {
	twice(t, func(t *testing.T) {
		for _, n := range append(rules(), ints...) {
			want, expected := mirrorModel(n)
			if got, e := wolfram.Mirror(n); got != want || e != expected {
				t.Errorf("Mirror(%d) is %d and the error %d, not %d and %d", n, got, e, want, expected)
			}
			want, expected = conjugateModel(n)
			if got, e := wolfram.Conjugate(n); got != want || e != expected {
				t.Errorf("Conjugate(%d) is %d and the error %d, not %d and %d", n, got, e, want, expected)
			}
		}
	})
}

// rules returns the numbers of all elementary rules.
func rules() []int {
	var list []int
	for n := range 256 {
		list = append(list, n)
	}
	return list
}

// P10.2: the new states, for each left, centre and right.
func TestMirrorAndConjugateStates(t *testing.T) {
	for n := range 256 {
		old, _ := wolfram.Elementary(n)
		m, _ := wolfram.Mirror(n)
		mirrored, _ := wolfram.Elementary(m)
		c, _ := wolfram.Conjugate(n)
		conjugated, _ := wolfram.Elementary(c)
		for left := range 2 {
			for centre := range 2 {
				for right := range 2 {
					state := 4*left + 2*centre + right
					if mirrored[state] != old[4*right+2*centre+left] {
						t.Errorf("the mirror %d of %d has the new state %d for %d, %d, %d", m, n, mirrored[state], left, centre, right)
					}
					if conjugated[state] != 1-old[4*(1-left)+2*(1-centre)+1-right] {
						t.Errorf("the conjugate %d of %d has the new state %d for %d, %d, %d", c, n, conjugated[state], left, centre, right)
					}
				}
			}
		}
	}
}

// P10.1, P10.2: the next generation of rows whose ends are joined, which are mirrored, or have their states exchanged.
func TestRows(t *testing.T) {
	const width = 7
	for n := range 256 {
		m, _ := wolfram.Mirror(n)
		c, _ := wolfram.Conjugate(n)
		for i := range 1 << width {
			var row, reverse, exchanged [width]int
			for x := range width {
				row[x] = i >> x & 1
				reverse[width-1-x] = row[x]
				exchanged[x] = 1 - row[x]
			}
			next, mirrored, conjugated := step(n, row), step(m, reverse), step(c, exchanged)
			for x := range width {
				if mirrored[width-1-x] != next[x] || conjugated[x] != 1-next[x] {
					t.Fatalf("rule %d leads from %v to %v, its mirror to %v, its conjugate to %v", n, row, next, mirrored, conjugated)
				}
			}
		}
	}
}

// step returns the next generation of a row whose ends are joined.
func step(n int, row [7]int) [7]int {
	l, _ := wolfram.Elementary(n)
	var next [7]int
	for x := range row {
		next[x] = l[4*row[(x+6)%7]+2*row[x]+row[(x+1)%7]]
	}
	return next
}

// P10.1: the example 3 of the whole.
func TestRule90(t *testing.T) {
	if got, want := step(90, [7]int{3: 1}), ([7]int{2: 1, 4: 1}); got != want {
		t.Errorf("the rule 90 leads from a single cell to %v", got)
	}
}

// P10.6
func TestNumberOfElementary(t *testing.T) {
	for n := range 256 {
		l, e := wolfram.Elementary(n)
		if got, f := wolfram.Number(l); got != n || e != api.OK || f != api.OK {
			t.Errorf("Number(Elementary(%d)) is %d, with the errors %d and %d", n, got, e, f)
		}
	}
}

// P10.7
func TestInvolutions(t *testing.T) {
	for n := range 256 {
		m, _ := wolfram.Mirror(n)
		c, _ := wolfram.Conjugate(n)
		if again, e := wolfram.Mirror(m); again != n || e != api.OK {
			t.Errorf("Mirror(Mirror(%d)) is %d, with the error %d", n, again, e)
		}
		if again, e := wolfram.Conjugate(c); again != n || e != api.OK {
			t.Errorf("Conjugate(Conjugate(%d)) is %d, with the error %d", n, again, e)
		}
		one, e := wolfram.Mirror(c)
		other, f := wolfram.Conjugate(m)
		if one != other || e != api.OK || f != api.OK {
			t.Errorf("Mirror(Conjugate(%d)) is %d, but Conjugate(Mirror(%d)) is %d, with the errors %d and %d", n, one, n, other, e, f)
		}
	}
}
