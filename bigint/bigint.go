// Package bigint is layer 1: see shared/doc/01-bigint.md.
package bigint

import (
	"math"
	"slices"

	"cellular/api"
)

// Right reports whether a big integer is valid.
func Right(a api.Big) bool {
	n := len(a.Mag)
	if n == 0 {
		return !a.Neg
	}
	return n <= api.MaxDigits && a.Mag[n-1] != 0
}

// From returns an int as a big integer.
func From(n int) api.Big {
	size := absolute(n)
	a, _ := signed(n < 0, []uint32{uint32(size), uint32(size >> digitBits)})
	return a
}

// Int returns a big integer as an int; false if it does not fit.
func Int(a api.Big) (int, bool) {
	if !Right(a) || Compare(a, From(math.MinInt)) < 0 || Compare(a, From(math.MaxInt)) > 0 {
		return 0, false
	}
	n := uint64(digitAt(a.Mag, 1))<<digitBits | uint64(digitAt(a.Mag, 0))
	if a.Neg {
		n = -n
	}
	return int(n), true
}

// Compare compares two big integers.
func Compare(a, b api.Big) int {
	switch {
	case !Right(a) || !Right(b):
		return 0
	case a.Neg && b.Neg:
		return compare(b.Mag, a.Mag)
	case a.Neg:
		return -1
	case b.Neg:
		return 1
	}
	return compare(a.Mag, b.Mag)
}

// Neg returns the negative.
func Neg(a api.Big) api.Big {
	if !Right(a) {
		return api.Big{}
	}
	b, _ := signed(!a.Neg, slices.Clone(a.Mag))
	return b
}

// Add returns the sum.
func Add(a, b api.Big) (api.Big, api.Errno) {
	switch {
	case !Right(a) || !Right(b):
		return api.Big{}, api.ErrArg
	case a.Neg == b.Neg:
		return signed(a.Neg, add(a.Mag, b.Mag))
	case compare(a.Mag, b.Mag) < 0:
		return signed(b.Neg, subtract(b.Mag, a.Mag))
	}
	return signed(a.Neg, subtract(a.Mag, b.Mag))
}

// Mul returns the product.
func Mul(a, b api.Big) (api.Big, api.Errno) {
	if !Right(a) || !Right(b) {
		return api.Big{}, api.ErrArg
	}
	return signed(a.Neg != b.Neg, multiply(a.Mag, b.Mag))
}

// Shift returns a times 2 to the power k, rounded down.
func Shift(a api.Big, k int) (api.Big, api.Errno) {
	switch {
	case !Right(a):
		return api.Big{}, api.ErrArg
	case len(a.Mag) == 0:
		return api.Big{}, api.OK
	case k >= maxBits:
		return api.Big{}, api.ErrSize
	case k >= 0:
		return signed(a.Neg, shiftUp(a.Mag, k))
	}
	// A shift by maxBits already removes every digit; the least int has no negative.
	k = -max(k, -maxBits)
	if !a.Neg {
		return signed(false, shiftDown(a.Mag, k))
	}
	// In two's complement -m is the complement of m - 1, and complements are shifted without rounding.
	one := []uint32{1}
	return signed(true, add(shiftDown(subtract(a.Mag, one), k), one))
}

// Div returns the quotient, rounded down, and the remainder.
func Div(a api.Big, n int) (q api.Big, r int, e api.Errno) {
	if !Right(a) {
		return api.Big{}, 0, api.ErrArg
	}
	if n == 0 {
		return api.Big{}, 0, api.ErrZero
	}
	quotient, rest := divide(a.Mag, absolute(n))
	opposite := a.Neg != (n < 0)
	if opposite && rest != 0 {
		// The quotient of the absolute values is rounded towards zero, but this one is below zero.
		quotient = add(quotient, []uint32{1})
		rest = absolute(n) - rest
	}
	r = int(rest)
	if n < 0 {
		r = -r
	}
	q, e = signed(opposite, quotient)
	return q, r, e
}

// Bit returns a bit of the two's complement.
func Bit(a api.Big, k int) int {
	if k < 0 {
		return 0
	}
	// The last bit is the same for a number and its negative, so the absolute value of the quotient is enough.
	shifted, _ := Shift(a, -k)
	return int(digitAt(shifted.Mag, 0) & 1)
}
