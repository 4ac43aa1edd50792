package bigint_test

import (
	"math"
	"math/big"
	"slices"
	"testing"

	"cellular/api"
)

// The tests compare package bigint with math/big, whose integers have no limit.

// limit is the least absolute value that is too great.
func limit() *big.Int { return new(big.Int).Lsh(big.NewInt(1), 2048) }

// fits reports whether a result is within the limit.
func fits(n *big.Int) bool { return n.CmpAbs(limit()) < 0 }

// valueOf returns the value of a big integer by the definition of the chapter.
func valueOf(a api.Big) *big.Int {
	n := new(big.Int)
	for i := len(a.Mag) - 1; i >= 0; i-- {
		n.Lsh(n, 32)
		n.Add(n, big.NewInt(int64(a.Mag[i])))
	}
	if a.Neg {
		n.Neg(n)
	}
	return n
}

// bigOf returns the valid big integer with a value.
func bigOf(n *big.Int) api.Big {
	a := api.Big{Neg: n.Sign() < 0}
	digit := big.NewInt(1<<32 - 1)
	for m := new(big.Int).Abs(n); m.Sign() != 0; m.Rsh(m, 32) {
		a.Mag = append(a.Mag, uint32(new(big.Int).And(m, digit).Uint64()))
	}
	return a
}

// same compares contents; an empty slice may be nil.
func same(a, b api.Big) bool { return a.Neg == b.Neg && slices.Equal(a.Mag, b.Mag) }

func isZeroValue(a api.Big) bool { return !a.Neg && len(a.Mag) == 0 }

// ints returns ints of all sizes, with the least and the greatest one.
func ints() []int {
	list := []int{0, 9, 10, 11, 999_999_999, 1_000_000_000, 123456789012345678, math.MaxInt, math.MaxInt - 1}
	for k := range 63 {
		list = append(list, 1<<k-1, 1<<k, 1<<k+1)
	}
	for _, n := range slices.Clone(list) {
		list = append(list, -n)
	}
	return append(list, math.MinInt)
}

// values returns integers of all sizes up to the limit, with digits of zeros and of ones, of both signs.
func values() []*big.Int {
	var list []*big.Int
	one := big.NewInt(1)
	for _, k := range []uint{0, 1, 2, 5, 31, 32, 33, 62, 63, 64, 65, 95, 96, 97, 127, 128, 500, 1023, 1024, 1025, 2015, 2016, 2017, 2046, 2047} {
		power := new(big.Int).Lsh(one, k)
		list = append(list, power, new(big.Int).Sub(power, one), new(big.Int).Add(power, one))
	}
	list = append(list, new(big.Int).Sub(limit(), one), new(big.Int).Sub(limit(), big.NewInt(2)))
	mixed := big.NewInt(1)
	for range 40 {
		mixed = new(big.Int).Mul(mixed, big.NewInt(0x1234567890abcdf))
		mixed.Add(mixed, big.NewInt(0x76543210fedcba9))
		if fits(mixed) {
			list = append(list, mixed)
		}
	}
	for _, n := range slices.Clone(list) {
		list = append(list, new(big.Int).Neg(n))
	}
	return list
}

// invalid returns big integers that are not valid.
func invalid() []api.Big {
	long := make([]uint32, 65)
	long[64] = 1
	zeros := make([]uint32, 64)
	zeros[0] = 1
	return []api.Big{
		{Neg: true}, {Neg: true, Mag: []uint32{}}, {Mag: []uint32{0}}, {Neg: true, Mag: []uint32{0}},
		{Mag: []uint32{1, 0}}, {Neg: true, Mag: []uint32{5, 7, 0}}, {Mag: zeros}, {Mag: long}, {Neg: true, Mag: long},
		{Mag: make([]uint32, 65)}, {Mag: slices.Repeat([]uint32{math.MaxUint32}, 1000)},
	}
}

// check compares the result of a call with the value that it must have: ErrSize and the zero value beyond the limit.
func check(t *testing.T, got api.Big, e api.Errno, want *big.Int, call ...any) {
	t.Helper()
	if !fits(want) {
		if e != api.ErrSize || !isZeroValue(got) {
			t.Errorf("%v beyond the limit: %v, error %d", call, got, e)
		}
		return
	}
	if e != api.OK || !same(got, bigOf(want)) {
		t.Errorf("%v: got %v, error %d, want %s", call, got, e, want)
	}
}

// unchanged calls a function, and checks that the arguments are as before and share no memory with the result.
func unchanged(t *testing.T, what string, f func(a, b api.Big) api.Big) {
	t.Helper()
	for _, n := range values() {
		a, b := bigOf(n), bigOf(big.NewInt(-77))
		result := f(a, b)
		before := valueOf(result)
		if !same(a, bigOf(n)) || !same(b, bigOf(big.NewInt(-77))) {
			t.Errorf("%s changes its arguments for %s", what, n)
		}
		for i := range a.Mag {
			a.Mag[i]++
		}
		b.Mag[0]++
		if valueOf(result).Cmp(before) != 0 {
			t.Errorf("%s shares memory with its arguments for %s", what, n)
		}
	}
}
