package bigint

import (
	"cmp"
	"math/bits"

	"cellular/api"
)

const (
	digitBits = 32
	maxBits   = digitBits * api.MaxDigits
)

// The functions below compute with absolute values. These are digits as in api.Big, but there may be zeros at the end, and more of
// them than MaxDigits. All results but those of trim are new memory.

// absolute also serves the least int, whose absolute value is no int.
func absolute(n int) uint64 {
	if n < 0 {
		return -uint64(n)
	}
	return uint64(n)
}

// trim removes the zeros at the end.
func trim(digits []uint32) []uint32 {
	n := len(digits)
	for n > 0 && digits[n-1] == 0 {
		n--
	}
	return digits[:n]
}

// signed returns the valid big integer with a sign and an absolute value; zero has no sign. The result keeps the digits.
func signed(neg bool, digits []uint32) (api.Big, api.Errno) {
	digits = trim(digits)
	switch {
	case len(digits) == 0:
		return api.Big{}, api.OK
	case len(digits) > api.MaxDigits:
		return api.Big{}, api.ErrSize
	}
	return api.Big{Neg: neg, Mag: digits}, api.OK
}

// digitAt returns 0 beyond the last digit.
func digitAt(digits []uint32, i int) uint32 {
	if i < len(digits) {
		return digits[i]
	}
	return 0
}

// column returns the digit of a sum, and the carry to the next digit. The sum must be below 2^64.
func column(summands ...uint64) (digit uint32, carry uint64) {
	var sum uint64
	for _, s := range summands {
		sum += s
	}
	return uint32(sum), sum >> digitBits
}

// compare expects digits without zeros at the end.
func compare(a, b []uint32) int {
	if len(a) != len(b) {
		return cmp.Compare(len(a), len(b))
	}
	for i := len(a) - 1; i >= 0; i-- {
		if a[i] != b[i] {
			return cmp.Compare(a[i], b[i])
		}
	}
	return 0
}

func add(a, b []uint32) []uint32 {
	sum := make([]uint32, max(len(a), len(b))+1)
	var carry uint64
	for i := range sum {
		sum[i], carry = column(uint64(digitAt(a, i)), uint64(digitAt(b, i)), carry)
	}
	return sum
}

// subtract returns a - b, where b must not be greater than a.
func subtract(a, b []uint32) []uint32 {
	difference := make([]uint32, len(a))
	// To subtract b is to add its complement and 1; the last carry is dropped.
	carry := uint64(1)
	for i := range difference {
		difference[i], carry = column(uint64(a[i]), uint64(^digitAt(b, i)), carry)
	}
	return difference
}

func multiply(a, b []uint32) []uint32 {
	product := make([]uint32, len(a)+len(b))
	for i, x := range a {
		var carry uint64
		for j, y := range b {
			product[i+j], carry = column(uint64(x)*uint64(y), uint64(product[i+j]), carry)
		}
		product[i+len(b)] = uint32(carry)
	}
	return product
}

// divide returns the quotient, rounded down, and the remainder; n must not be 0.
func divide(a []uint32, n uint64) (quotient []uint32, rest uint64) {
	quotient = make([]uint32, len(a))
	for i := len(a) - 1; i >= 0; i-- {
		// As the rest is less than n, the quotient is a single digit.
		var digit uint64
		digit, rest = bits.Div64(rest>>digitBits, rest<<digitBits|uint64(a[i]), n)
		quotient[i] = uint32(digit)
	}
	return quotient, rest
}

// shiftUp multiplies by 2^k; k must not be negative.
func shiftUp(a []uint32, k int) []uint32 {
	whole, part := k/digitBits, k%digitBits
	shifted := make([]uint32, len(a)+whole+1)
	for i, digit := range a {
		wide := uint64(digit) << part
		shifted[i+whole] |= uint32(wide)
		shifted[i+whole+1] = uint32(wide >> digitBits)
	}
	return shifted
}

// shiftDown divides by 2^k, rounded down; k must not be negative.
func shiftDown(a []uint32, k int) []uint32 {
	whole, part := k/digitBits, k%digitBits
	shifted := make([]uint32, max(0, len(a)-whole))
	for i := range shifted {
		wide := uint64(digitAt(a, i+whole+1))<<digitBits | uint64(a[i+whole])
		shifted[i] = uint32(wide >> part)
	}
	return shifted
}
