package bigint_test

import (
	"math"
	"math/big"
	"strings"
	"testing"

	"cellular/api"
	"cellular/bigint"
)

// P1.7, P1.9
func TestTextAndParse(t *testing.T) {
	list := append(values(), new(big.Int))
	for k := int64(1); k < 617; k++ {
		power := new(big.Int).Exp(big.NewInt(10), big.NewInt(k), nil)
		list = append(list, power, new(big.Int).Sub(power, big.NewInt(1)), new(big.Int).Neg(power))
	}
	for _, n := range list {
		a := bigOf(n)
		if got := bigint.Text(a); got != n.String() {
			t.Errorf("Text of %s is %q", n, got)
		}
		if b, e := bigint.Parse(n.String()); e != api.OK || !same(a, b) || !bigint.Right(b) {
			t.Errorf("Parse of %s is %v, error %d", n, b, e)
		}
	}
	for _, n := range ints() {
		if b, e := bigint.Parse(bigint.Text(bigint.From(n))); e != api.OK || !same(b, bigint.From(n)) {
			t.Errorf("%d as a text is %v, error %d", n, b, e)
		}
	}
}

// P1.7
func TestTextExamples(t *testing.T) {
	for n, want := range map[int]string{0: "0", -1: "-1", 1000000000: "1000000000", math.MinInt: "-9223372036854775808"} {
		if got := bigint.Text(bigint.From(n)); got != want {
			t.Errorf("Text of %d is %q", n, got)
		}
	}
	if got := bigint.Text(api.Big{Mag: []uint32{}}); got != "0" {
		t.Errorf("Text of zero with an empty slice is %q", got)
	}
	a, _ := bigint.Shift(bigint.From(1), 64)
	if got := bigint.Text(a); got != "18446744073709551616" {
		t.Errorf("Text of 2^64 is %q", got)
	}
	for i, a := range invalid() {
		if got := bigint.Text(a); got != "" {
			t.Errorf("Text of the invalid big integer %d is %q", i, got)
		}
	}
	unchanged(t, "Text", func(a, _ api.Big) api.Big { b, _ := bigint.Parse(bigint.Text(a)); return b })
}

// P1.7
func TestParseSyntax(t *testing.T) {
	for _, s := range []string{
		"", "-", "--1", "-0", "-00", "00", "007", "-007", "+7", "+", "1 ", " 1", "- 1", "1-", "1-2", "1.0", "1e9", "0x1", "1_000", "1,000",
		"1\n", "\x00", "12\x0034", "a", "1a", "/", ":", "1/", "1:", "\xff", "\uff11", "\u0661", "-\u0661", "\u22121",
		strings.Repeat("0", 1000), strings.Repeat("9", 1000) + "x", "x" + strings.Repeat("9", 1000), "0" + strings.Repeat("9", 1000),
		"-0" + strings.Repeat("9", 1000),
	} {
		if a, e := bigint.Parse(s); e != api.ErrSyntax || !isZeroValue(a) {
			t.Errorf("Parse(%.20q) is %v, error %d", s, a, e)
		}
	}
}

// P1.7
func TestParseSize(t *testing.T) {
	least := limit().String()
	most := new(big.Int).Sub(limit(), big.NewInt(1)).String()
	for _, s := range []string{least, least + "0", most + "0", most + "9", strings.Repeat("9", 617), "1" + strings.Repeat("0", 617), strings.Repeat("9", 1<<20)} {
		for _, sign := range []string{"", "-"} {
			if a, e := bigint.Parse(sign + s); e != api.ErrSize || !isZeroValue(a) {
				t.Errorf("Parse of %d characters is %v, error %d", len(sign+s), a, e)
			}
		}
	}
	for _, sign := range []string{"", "-"} {
		a, e := bigint.Parse(sign + most)
		if e != api.OK || len(a.Mag) != 64 || a.Neg != (sign == "-") || bigint.Text(a) != sign+most {
			t.Errorf("Parse of %s2^2048 - 1 is %v, error %d", sign, a, e)
		}
	}
}
