package bigint_test

import (
	"math"
	"math/big"
	"slices"
	"testing"

	"cellular/api"
	"cellular/bigint"
)

// P1.1
func TestRight(t *testing.T) {
	for _, n := range values() {
		if !bigint.Right(bigOf(n)) {
			t.Errorf("%s is not valid", n)
		}
	}
	for i, a := range invalid() {
		if bigint.Right(a) {
			t.Errorf("the invalid big integer %d is valid", i)
		}
	}
	if !bigint.Right(api.Big{}) || !bigint.Right(api.Big{Mag: []uint32{}}) {
		t.Error("zero is not valid")
	}
	if !bigint.Right(api.Big{Neg: true, Mag: slices.Repeat([]uint32{math.MaxUint32}, 64)}) {
		t.Error("the least big integer is not valid")
	}
}

// P1.1, P1.9
func TestFromAndInt(t *testing.T) {
	for _, n := range ints() {
		a := bigint.From(n)
		if !same(a, bigOf(big.NewInt(int64(n)))) {
			t.Errorf("From(%d) is %v", n, a)
		}
		if m, ok := bigint.Int(a); m != n || !ok {
			t.Errorf("Int(From(%d)) is %d, %v", n, m, ok)
		}
	}
	if a := bigint.From(-5); !a.Neg || !slices.Equal(a.Mag, []uint32{5}) {
		t.Error("From(-5) is", a)
	}
	if a := bigint.From(1 << 40); a.Neg || !slices.Equal(a.Mag, []uint32{0, 256}) {
		t.Error("From(1 << 40) is", a)
	}
}

// P1.1
func TestIntOutOfRange(t *testing.T) {
	most, least := big.NewInt(math.MaxInt), big.NewInt(math.MinInt)
	for _, n := range values() {
		m, ok := bigint.Int(bigOf(n))
		within := n.Cmp(least) >= 0 && n.Cmp(most) <= 0
		if ok != within || within && int64(m) != n.Int64() || !within && m != 0 {
			t.Errorf("Int(%s) is %d, %v", n, m, ok)
		}
	}
	for i, a := range invalid() {
		if n, ok := bigint.Int(a); n != 0 || ok {
			t.Errorf("Int of the invalid big integer %d is %d, %v", i, n, ok)
		}
	}
}

// P1.2
func TestCompare(t *testing.T) {
	list := append(values(), new(big.Int))
	for _, m := range list {
		for _, n := range list {
			if got := bigint.Compare(bigOf(m), bigOf(n)); got != m.Cmp(n) {
				t.Errorf("Compare(%s, %s) is %d", m, n, got)
			}
		}
	}
	for i, a := range invalid() {
		for _, b := range []api.Big{{}, bigint.From(1), bigint.From(-1), a} {
			if bigint.Compare(a, b) != 0 || bigint.Compare(b, a) != 0 {
				t.Errorf("Compare of the invalid big integer %d and %v is not 0", i, b)
			}
		}
	}
}

// P1.2
func TestNeg(t *testing.T) {
	for _, n := range values() {
		check(t, bigint.Neg(bigOf(n)), api.OK, new(big.Int).Neg(n), "Neg", n)
	}
	for i, a := range invalid() {
		if !isZeroValue(bigint.Neg(a)) {
			t.Errorf("Neg of the invalid big integer %d is %v", i, bigint.Neg(a))
		}
	}
	unchanged(t, "Neg", func(a, _ api.Big) api.Big { return bigint.Neg(a) })
}

// P1.3, P1.8
func TestAdd(t *testing.T) {
	list := values()
	for _, m := range list {
		for _, n := range list {
			got, e := bigint.Add(bigOf(m), bigOf(n))
			check(t, got, e, new(big.Int).Add(m, n), "Add", m, n)
			swapped, f := bigint.Add(bigOf(n), bigOf(m))
			if !same(got, swapped) || e != f {
				t.Errorf("%s + %s is not commutative", m, n)
			}
		}
		if got, e := bigint.Add(bigOf(m), bigint.Neg(bigOf(m))); !isZeroValue(got) || e != api.OK {
			t.Errorf("%s and its negative make %v, error %d", m, got, e)
		}
	}
	unchanged(t, "Add", func(a, b api.Big) api.Big { c, _ := bigint.Add(a, b); return c })
	unchanged(t, "Add of zero", func(a, _ api.Big) api.Big { c, _ := bigint.Add(a, api.Big{}); return c })
	unchanged(t, "Add to zero", func(a, _ api.Big) api.Big { c, _ := bigint.Add(api.Big{}, a); return c })
}

// P1.3, P1.8
func TestMul(t *testing.T) {
	list := values()
	for _, m := range list {
		for _, n := range list {
			got, e := bigint.Mul(bigOf(m), bigOf(n))
			check(t, got, e, new(big.Int).Mul(m, n), "Mul", m, n)
			swapped, f := bigint.Mul(bigOf(n), bigOf(m))
			if !same(got, swapped) || e != f {
				t.Errorf("%s * %s is not commutative", m, n)
			}
		}
	}
	unchanged(t, "Mul", func(a, b api.Big) api.Big { c, _ := bigint.Mul(a, b); return c })
	unchanged(t, "Mul by one", func(a, _ api.Big) api.Big { c, _ := bigint.Mul(a, bigint.From(1)); return c })
}

// P1.3
func TestInvalidOperands(t *testing.T) {
	for i, a := range invalid() {
		for _, b := range []api.Big{{}, bigint.From(1), bigint.From(-1), a} {
			for _, pair := range [][2]api.Big{{a, b}, {b, a}} {
				if c, e := bigint.Add(pair[0], pair[1]); e != api.ErrArg || !isZeroValue(c) {
					t.Errorf("Add with the invalid big integer %d: %v, error %d", i, c, e)
				}
				if c, e := bigint.Mul(pair[0], pair[1]); e != api.ErrArg || !isZeroValue(c) {
					t.Errorf("Mul with the invalid big integer %d: %v, error %d", i, c, e)
				}
			}
		}
	}
}

// shifts returns numbers of bits that are not too many for the oracle.
func shifts() []int {
	list := []int{0, 500, 1000, 2015, 2016, 2017, 2046, 2047, 2048, 2049, 2080, 4095, 4096, 4097}
	for k := range 70 {
		list = append(list, k)
	}
	for _, k := range slices.Clone(list) {
		list = append(list, -k)
	}
	return list
}

// shifted returns n * 2^k, rounded down.
func shifted(n *big.Int, k int) *big.Int {
	if k >= 0 {
		return new(big.Int).Lsh(n, uint(k))
	}
	// Rsh of math/big rounds down, too.
	return new(big.Int).Rsh(n, uint(-k))
}

// P1.4
func TestShift(t *testing.T) {
	for _, n := range append(values(), new(big.Int)) {
		for _, k := range shifts() {
			got, e := bigint.Shift(bigOf(n), k)
			check(t, got, e, shifted(n, k), "Shift", n, k)
		}
	}
	for _, k := range shifts() {
		unchanged(t, "Shift", func(a, _ api.Big) api.Big { c, _ := bigint.Shift(a, k); return c })
	}
}

// P1.4
func TestShiftByAnyInt(t *testing.T) {
	for _, k := range []int{4097, 1 << 31, 1 << 32, 1<<62 + 1, math.MaxInt} {
		for _, c := range []struct {
			n, k, want int
			e          api.Errno
		}{
			{0, k, 0, api.OK}, {0, -k, 0, api.OK}, {0, -k - 1, 0, api.OK},
			{1, k, 0, api.ErrSize}, {-1, k, 0, api.ErrSize}, {7, k, 0, api.ErrSize},
			{1, -k, 0, api.OK}, {math.MaxInt, -k - 1, 0, api.OK},
			{-1, -k, -1, api.OK}, {-2, -k - 1, -1, api.OK}, {math.MinInt, -k - 1, -1, api.OK},
		} {
			a, e := bigint.Shift(bigint.From(c.n), c.k)
			if !same(a, bigint.From(c.want)) || e != c.e {
				t.Errorf("Shift(%d, %d) is %v, error %d", c.n, c.k, a, e)
			}
		}
	}
	for i, a := range invalid() {
		for _, k := range []int{0, 1, -1, 2048, math.MaxInt, math.MinInt} {
			if c, e := bigint.Shift(a, k); e != api.ErrArg || !isZeroValue(c) {
				t.Errorf("Shift of the invalid big integer %d by %d: %v, error %d", i, k, c, e)
			}
		}
	}
}

// P1.8
func TestShiftThereAndBack(t *testing.T) {
	for _, n := range values() {
		for _, k := range shifts() {
			if k < 0 {
				continue
			}
			up, e := bigint.Shift(bigOf(n), k)
			if e != api.OK {
				continue
			}
			if back, e := bigint.Shift(up, -k); !same(back, bigOf(n)) || e != api.OK {
				t.Errorf("Shift of %s by %d and back is %v, error %d", n, k, back, e)
			}
		}
	}
}

// floorDiv returns the quotient, rounded down, and the remainder.
func floorDiv(a, n *big.Int) (q, r *big.Int) {
	q, r = new(big.Int).QuoRem(a, n, new(big.Int))
	if r.Sign() != 0 && r.Sign() != n.Sign() {
		q.Sub(q, big.NewInt(1))
		r.Add(r, n)
	}
	return q, r
}

// P1.5, P1.8
func TestDiv(t *testing.T) {
	for _, a := range append(values(), new(big.Int)) {
		for _, n := range ints() {
			if n == 0 {
				continue
			}
			q, r, e := bigint.Div(bigOf(a), n)
			wantQ, wantR := floorDiv(a, big.NewInt(int64(n)))
			if !same(q, bigOf(wantQ)) || int64(r) != wantR.Int64() || e != api.OK {
				t.Fatalf("Div(%s, %d) is %v, %d, error %d, want %s, %s", a, n, q, r, e, wantQ, wantR)
			}
			checkDivided(t, bigOf(a), n, q, r)
		}
	}
	for _, n := range []int{1, -1, 2, math.MaxInt, math.MinInt} {
		unchanged(t, "Div", func(a, _ api.Big) api.Big { q, _, _ := bigint.Div(a, n); return q })
	}
}

// checkDivided checks that a is q * n + r, unless the product is too great.
func checkDivided(t *testing.T, a api.Big, n int, q api.Big, r int) {
	t.Helper()
	product, e := bigint.Mul(q, bigint.From(n))
	if e == api.ErrSize {
		return
	}
	if sum, f := bigint.Add(product, bigint.From(r)); e != api.OK || f != api.OK || !same(sum, a) {
		t.Errorf("Div(%v, %d) does not fit its product: %v, errors %d, %d", a, n, sum, e, f)
	}
}

// P1.5
func TestDivExamples(t *testing.T) {
	for _, c := range []struct{ a, n, q, r int }{
		{7, 2, 3, 1}, {-7, 2, -4, 1}, {7, -2, -4, -1}, {-7, -2, 3, -1},
		{6, 3, 2, 0}, {-6, 3, -2, 0}, {6, -3, -2, 0}, {-6, -3, 2, 0},
		{0, 5, 0, 0}, {0, -5, 0, 0}, {0, math.MinInt, 0, 0}, {1, 2, 0, 1}, {-1, 2, -1, 1}, {1, -2, -1, -1}, {-1, -2, 0, -1},
		{math.MinInt, math.MinInt, 1, 0}, {math.MaxInt, math.MinInt, -1, -1}, {math.MinInt, math.MaxInt, -2, math.MaxInt - 1},
		{1, math.MinInt, -1, math.MinInt + 1}, {-1, math.MinInt, 0, -1}, {-1, math.MaxInt, -1, math.MaxInt - 1},
	} {
		q, r, e := bigint.Div(bigint.From(c.a), c.n)
		if !same(q, bigint.From(c.q)) || r != c.r || e != api.OK {
			t.Errorf("Div(%d, %d) is %v, %d, error %d", c.a, c.n, q, r, e)
		}
	}
}

// P1.5
func TestDivErrors(t *testing.T) {
	for _, n := range values() {
		if q, r, e := bigint.Div(bigOf(n), 0); e != api.ErrZero || r != 0 || !isZeroValue(q) {
			t.Errorf("Div(%s, 0) is %v, %d, error %d", n, q, r, e)
		}
	}
	for i, a := range invalid() {
		for _, n := range []int{0, 1, -1, math.MaxInt, math.MinInt} {
			if q, r, e := bigint.Div(a, n); e != api.ErrArg || r != 0 || !isZeroValue(q) {
				t.Errorf("Div of the invalid big integer %d by %d: %v, %d, error %d", i, n, q, r, e)
			}
		}
	}
}

// P1.6
func TestBit(t *testing.T) {
	for _, n := range append(values(), new(big.Int)) {
		for _, k := range shifts() {
			want := 0
			if k >= 0 {
				want = int(shifted(n, -k).Bit(0))
			}
			if got := bigint.Bit(bigOf(n), k); got != want {
				t.Fatalf("Bit(%s, %d) is %d", n, k, got)
			}
		}
		sign := 0
		if n.Sign() < 0 {
			sign = 1
		}
		for _, k := range []int{1 << 32, 1 << 40, math.MaxInt} {
			if got := bigint.Bit(bigOf(n), k); got != sign {
				t.Errorf("Bit(%s, %d) is %d", n, k, got)
			}
		}
		if bigint.Bit(bigOf(n), math.MinInt) != 0 {
			t.Errorf("Bit(%s) of the least int is not 0", n)
		}
	}
	for i, a := range invalid() {
		for _, k := range []int{0, 1, 32, 2048, -1, math.MaxInt, math.MinInt} {
			if bigint.Bit(a, k) != 0 {
				t.Errorf("Bit %d of the invalid big integer %d is not 0", k, i)
			}
		}
	}
}
