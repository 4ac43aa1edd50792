package bigint

import (
	"bytes"
	"slices"
	"strings"

	"cellular/api"
)

// Text separates decimal digits in groups, as that takes fewer divisions than one for each of them.
const (
	groupDigits = 9
	groupSize   = 1_000_000_000
)

// Text returns the decimal form.
func Text(a api.Big) string {
	switch {
	case !Right(a):
		return ""
	case len(a.Mag) == 0:
		return "0"
	case a.Neg:
		return "-" + decimal(a.Mag)
	}
	return decimal(a.Mag)
}

// decimal returns the decimal form of an absolute value that is not 0.
func decimal(digits []uint32) string {
	var backwards []byte
	for digits = trim(digits); len(digits) > 0; {
		quotient, group := divide(digits, groupSize)
		for range groupDigits {
			backwards = append(backwards, '0'+byte(group%10))
			group /= 10
		}
		digits = trim(quotient)
	}
	text := bytes.TrimRight(backwards, "0")
	slices.Reverse(text)
	return string(text)
}

// Parse reads the decimal form.
func Parse(s string) (api.Big, api.Errno) {
	text, neg := strings.CutPrefix(s, "-")
	if !isDecimal(text) || neg && text == "0" {
		return api.Big{}, api.ErrSyntax
	}
	var digits []uint32
	for i := range len(text) {
		digits = appendDecimal(digits, text[i])
		// Further decimal digits never make it smaller, so a long text need not be read to its end.
		if len(digits) > api.MaxDigits {
			return api.Big{}, api.ErrSize
		}
	}
	return signed(neg, digits)
}

// isDecimal reports whether a text is the decimal form of an integer that is not negative.
func isDecimal(s string) bool {
	for i := range len(s) {
		if s[i] < '0' || s[i] > '9' {
			return false
		}
	}
	return s == "0" || s != "" && s[0] != '0'
}

// appendDecimal changes an absolute value to ten times itself plus a decimal digit. It adds no zeros at the end.
func appendDecimal(digits []uint32, c byte) []uint32 {
	carry := uint64(c - '0')
	for i, digit := range digits {
		digits[i], carry = column(uint64(digit)*10, carry)
	}
	if carry != 0 {
		digits = append(digits, uint32(carry))
	}
	return digits
}
