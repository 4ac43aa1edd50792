package wolfram_test

import (
	"math"
	"math/big"
	"math/rand"
	"slices"
	"strconv"
	"strings"
	"testing"

	"cellular/api"
	"cellular/wolfram"
)

// P10.5
func TestParseExamples(t *testing.T) {
	for s, want := range map[string]parsed{
		"W0":                     {2, 0, false, api.OK},
		"W1":                     {2, 1, false, api.OK},
		"W30":                    {2, 30, false, api.OK},
		"W100":                   {2, 100, false, api.OK},
		"W255":                   {2, 255, false, api.OK},
		"T0/2":                   {2, 0, true, api.OK},
		"T6/2":                   {2, 6, true, api.OK},
		"T15/2":                  {2, 15, true, api.OK},
		"T0/3":                   {3, 0, true, api.OK},
		"T777/3":                 {3, 777, true, api.OK},
		"T2186/3":                {3, 2186, true, api.OK},
		"T1048575/4":             {4, 1048575, true, api.OK},
		"T1220703124/5":          {5, 1220703124, true, api.OK},
		"T2821109907455/6":       {6, 2821109907455, true, api.OK},
		"T11398895185373142/7":   {7, 11398895185373142, true, api.OK},
		"T0/8":                   {8, 0, true, api.OK},
		"T9223372036854775807/8": {8, math.MaxInt, true, api.OK},
	} {
		checkResults(t, s, want)
		checkParse(t, s)
	}
}

// P10.5: texts that are no notations, also if a number in them is out of range.
func TestParseSyntax(t *testing.T) {
	for _, s := range []string{
		"", "W", "T", "/", "T/", "T/2", "T5", "T5/", "T5//", "T5//2", "T5/2/", "T5/2/2", "T/5/2", "/T5/2", "//", "0", "30", "777/3", "/3",
		"W/", "W/2", "W30/", "W30/2", "W/30", "WW30", "W30W", "W30W30", "30W", "TT5/2", "T5/2T", "T5T/2", "T5/T2", "5/2T", "WT5/2", "TW30",
		"W30T5/2", "T5/2W30", "TW5/2", "T5/W2", "T5W2", "T5\\2", "T5,2", "T5 2", "T5:2", "T52", "W5,5", "WT", "TW", "W0/", "T0", "T0/", "T/0",
		// Lower-case letters, and letters of other notations.
		"w30", "w", "t777/3", "t", "t5/2", "w256", "t5/9", "B30", "X30", "R30", "V30", "S5/2", "U5/2", "B3/S23", "B2/S/C3", "/2/3",
		// Spaces and signs.
		" W30", "W 30", "W30 ", "W3 0", "W30\n", "\nW30", "W\t30", "W30\x00", "W\x0030", "\x00W30", "W+30", "W-30", "W-1", "W-0", "W+0", "W--1",
		" T5/2", "T 5/2", "T5 /2", "T5/ 2", "T5/2 ", "T5/2\n", "T5\n/2", "T5/\n2", "T5/2\x00", "T+5/2", "T-5/2", "T5/+2", "T5/-2", "T-1/2",
		"T-0/2", "T5/-1", "T+0/2", "+T5/2", "-W30", "W+", "W-", "T+/2", "T5/+", "T5/-", "T-/-",
		// Other forms of numbers.
		"W0x1E", "W0b1", "W0o7", "W1E", "W1e1", "W1e2", "W3.0", "W30.", "W.5", "W3_0", "W1_000", "W0_0", "W30,0", "Wff", "WNaN", "WInf",
		"T0x5/2", "T5/0x2", "T1_0/2", "T5/0b10", "T5.0/2", "T5/2.0", "T5e0/2", "T5/2e0", "T5/1_0",
		// Leading zeros.
		"W00", "W000", "W030", "W01", "W0255", "W0256", "W00000000000000000000001", "T05/2", "T00/2", "T0777/3", "T5/02", "T5/00", "T00/02",
		"T05/02", "T5/002", "T0/03", "T5/09", "T05/9", "T016/2", "T00000000000000000000005/2", "T5/00000000000000000000002",
		// Wrong in form, with a number that is out of range.
		"W256 ", "W-256", "w999", "W256/", "W256/2", "W999x", "W99999999999999999999x", "W99999999999999999999/", "W99999999999999999999 ",
		"W-99999999999999999999", "W099999999999999999999", "T5/9/", "T5/1 ", "T16/2/2", "T16/", "T16", "T/9", "T99999999999999999999",
		"T99999999999999999999/", "T99999999999999999999x/2", "T5/99999999999999999999x", "T99999999999999999999/x", "Tx/99999999999999999999",
		"T/99999999999999999999", "T99999999999999999999/02", "T05/99999999999999999999", "T-99999999999999999999/2", "T16/2T", "T5/0 ",
		"T5/99999999999999999999-", "T99999999999999999999/2/2", "T99999999999999999999/-2", "T-1/9", "T-1/-1", "T5/-9",
	} {
		checkResults(t, s, parsed{e: api.ErrSyntax})
	}
}

// P10.5: notations of rules that do not exist.
func TestParseRange(t *testing.T) {
	for _, s := range []string{
		"W256", "W257", "W260", "W286", "W300", "W512", "W999", "W1000", "W2550", "W65536", "W65566", "W2147483647", "W2147483648",
		"W4294967295", "W4294967296", "W4294967326", "W9223372036854775807", "W9223372036854775808", "W18446744073709551615",
		"W18446744073709551616", "W18446744073709551646", "W99999999999999999999", "W340282366920938463463374607431768211486",
		"T16/2", "T17/2", "T22/2", "T262/2", "T2187/3", "T2964/3", "T1048576/4", "T1220703125/5", "T2821109907456/6", "T11398895185373143/7",
		"T9223372036854775807/7", "T9223372036854775808/8", "T9223372036854775808/2", "T18446744073709551615/8", "T18446744073709551616/8",
		"T18446744073709551622/2", "T73786976294838206463/8", "T73786976294838206464/8", "T4294967302/2", "T99999999999999999999/8",
		"T5/0", "T5/1", "T5/9", "T5/10", "T5/16", "T5/20", "T5/22", "T5/256", "T5/258",
		"T5/65538", "T5/4294967298", "T0/0", "T0/1", "T1/1", "T0/9",
		"T0/10", "T5/9223372036854775807", "T5/9223372036854775808", "T5/18446744073709551618", "T777/18446744073709551619",
		"T5/99999999999999999999", "T5/340282366920938463463374607431768211458",
		// Both numbers are out of range.
		"T16/1", "T99999999999999999999/0", "T99999999999999999999/99999999999999999999", "T18446744073709551622/18446744073709551618",
	} {
		checkResults(t, s, parsed{e: api.ErrRange})
	}
}

// P10.5: all numbers of up to three digits, and some with four.
func TestParseElementaryRules(t *testing.T) {
	twice(t, func(t *testing.T) {
		for n := range 3000 {
			digits := strconv.Itoa(n)
			want := parsed{states: 2, n: n}
			if n > 255 {
				want = parsed{e: api.ErrRange}
			}
			checkResults(t, "W"+digits, want)
			checkResults(t, "W0"+digits, parsed{e: api.ErrSyntax})
			checkResults(t, "w"+digits, parsed{e: api.ErrSyntax})
			checkResults(t, digits, parsed{e: api.ErrSyntax})
		}
	})
}

// P10.5: each number of states, with codes and with numbers that are none.
func TestParseTotalisticRules(t *testing.T) {
	twice(t, func(t *testing.T) {
		for states := range 12 {
			list := slices.Clone(ints)
			if isPossible(states) {
				list = append(list, someCodes(states)...)
				last := greatest(states)
				list = append(list, last-1, last, min(last, math.MaxInt-1)+1)
			}
			for _, n := range list {
				want := parsed{states: states, n: n, sum: true}
				if n < 0 {
					want = parsed{e: api.ErrSyntax}
				} else if _, e := digitsModel(states, n); e != api.OK {
					want = parsed{e: api.ErrRange}
				}
				checkResults(t, totalistic(strconv.Itoa(n), strconv.Itoa(states)), want)
			}
		}
	})
}

// P10.5: every code of two and of three states.
func TestParseAllCodes(t *testing.T) {
	for n := range 2500 {
		for states, last := range map[int]int{2: 15, 3: 2186} {
			want := parsed{states: states, n: n, sum: true}
			if n > last {
				want = parsed{e: api.ErrRange}
			}
			checkResults(t, totalistic(strconv.Itoa(n), strconv.Itoa(states)), want)
		}
	}
}

// totalistic returns the notation of a totalistic rule.
func totalistic(code, states string) string {
	return "T" + code + "/" + states
}

// P10.5: numbers of a hundred and of a thousand digits, and numbers that are small ones in 64 bits, at each place.
func TestParseLongNumbers(t *testing.T) {
	for _, digits := range longNumbers() {
		for _, s := range []string{
			"W" + digits, totalistic(digits, "2"), totalistic(digits, "8"), totalistic(digits, "9"), totalistic("0", digits),
			totalistic("6", digits), totalistic(digits, digits),
		} {
			checkResults(t, s, parsed{e: api.ErrRange})
			checkParse(t, s)
		}
		for _, s := range []string{
			digits, "W0" + digits, "W" + digits + "x", "Wx" + digits, "W-" + digits, "W+" + digits, "W" + digits + " ", "W" + digits + "/2",
			"W" + digits + ".", "w" + digits, "T" + digits, "T/" + digits, totalistic(digits, ""), totalistic("0"+digits, "2"),
			totalistic("6", "0"+digits), totalistic(digits+"x", "2"), totalistic("6", digits+"x"), totalistic("-"+digits, "2"),
			totalistic("6", "-"+digits), totalistic("+"+digits, "2"), totalistic("6", "+"+digits), totalistic(digits, "x"),
			totalistic("x", digits), totalistic(digits, "02"), totalistic("06", digits), totalistic(digits, "2/"), totalistic(digits, digits+"/"),
			totalistic(digits, "2\xff"), totalistic("\xff", digits), totalistic(digits+"_", "2"),
		} {
			checkResults(t, s, parsed{e: api.ErrSyntax})
		}
	}
}

// longNumbers returns numbers that no int can be, many of which have a small remainder modulo a power of two.
func longNumbers() []string {
	var list []string
	for _, n := range []int{30, 100, 1000} {
		zeros := strings.Repeat("0", n-2)
		list = append(list, strings.Repeat("9", n), strings.Repeat("1", n), "10"+zeros, "1"+zeros+"2", "2"+zeros+"6")
	}
	for _, bits := range []uint{63, 64, 65, 66, 96, 128, 192, 256, 331, 3320} {
		for _, rest := range []int64{0, 1, 2, 3, 6, 8, 30, 255, 777} {
			n := new(big.Int).Lsh(big.NewInt(1), bits)
			list = append(list, n.Add(n, big.NewInt(rest)).String())
		}
	}
	return append(list, codes(8).String(), new(big.Int).Sub(codes(8), big.NewInt(1)).String())
}

// P10.5: bytes that are no ASCII, or no valid UTF-8, are no digits and no letters.
func TestParseOtherBytes(t *testing.T) {
	for _, s := range []string{
		"\xff", "\x00", "\x80", "\xc2", "\xffW30", "W\xff30", "W3\xff0", "W30\xff", "W30\xc2", "W30\x80", "W\x80", "\xef\xbb\xbfW30", "W\xb3\xb0",
		"W256\xff", "W99999999999999999999\xff", "W\xed\xa0\x80", "W30\xf4\x90\x80\x80", "\xd730", "W\xc0\xb3", "\xc1\x9730",
		"\xffT6/2", "T\xff6/2", "T6\xff/2", "T6/\xff2", "T6/2\xff", "T6\xff2", "T6\xaf2", "T6\xc0\xaf2", "T6/2\xc2", "T6/2\x80", "T\x80/2",
		"T6/\x80", "\xef\xbb\xbfT6/2", "T16/2\xff", "\xd46/2",
		// Digits, strokes and letters of other alphabets, and runes that have the right letters as their lowest bytes.
		"W\u0663\u0660", "W\uff13\uff10", "W\u00b3", "W3\u0660", "T\u0666/2", "T6/\u0662", "T6\u22152",
		"T6\uff0f2", "T\uff16/2", "T6/\uff12", "T6\u20442",
		"\uff3730", "\u051c30", "\u015730", "\u0422" + "6/2", "\u03a46/2", "\uff346/2", "\u01546/2", "T6\u012f2", "W\u0133", "T6/\u0132",
		"W30\u0301", "W\u200b30", "W30\u00a0", "\u00a0W30", "T6/2\u2028", "T6\u200d/2",
	} {
		checkResults(t, s, parsed{e: api.ErrSyntax})
		checkParse(t, s)
	}
}

// bases are strings from which others are made by small changes.
var bases = []string{
	"", "W", "T", "T/", "T/2", "T5", "T5/", "/", "//", "W0", "W1", "W9", "W25", "W30", "W255", "W256", "W1000", "W030", "W-1", "w30", "W30 ",
	"T0/2", "T6/2", "T15/2", "T16/2", "T777/3", "T2186/3", "T2187/3", "T1048575/4", "T5/0", "T5/1", "T5/8", "T5/9", "T5/10", "T5/02",
	"T05/2", "T5/2/2", "T1220703124/5", "T2821109907455/6", "T11398895185373142/7", "T9223372036854775807/8", "T9223372036854775808/8",
	"W9223372036854775807", "W18446744073709551646", "T5/18446744073709551618", "T18446744073709551621/2", "W30/2", "T-5/2", "t5/2",
}

// P10.5: a byte more, a byte less or a byte exchanged at each place.
func TestParseChangedBytes(t *testing.T) {
	for _, s := range bases {
		checkParse(t, s)
		for i := range len(s) + 1 {
			for b := range 256 {
				checkParse(t, s[:i]+string([]byte{byte(b)})+s[i:])
			}
			if i == len(s) {
				continue
			}
			checkParse(t, s[:i]+s[i+1:])
			for b := range 256 {
				checkParse(t, s[:i]+string([]byte{byte(b)})+s[i+1:])
			}
		}
	}
}

// P10.5: all strings of a few bytes, alone and behind the beginnings of both notations.
func TestParseShortStrings(t *testing.T) {
	const bytes = "WT/0125689+-wt "
	last := []string{""}
	for range 4 {
		var longer []string
		for _, s := range last {
			checkParse(t, s)
			for _, start := range []string{"W", "W2", "T", "T1", "T5/", "T0/"} {
				checkParse(t, start+s)
			}
			for _, b := range bytes {
				longer = append(longer, s+string(b))
			}
		}
		last = longer
	}
	for _, s := range last {
		checkParse(t, s)
	}
}

// P10.5: long strings.
func TestParseLongStrings(t *testing.T) {
	const n = 1 << 20
	for s, want := range map[string]api.Errno{
		strings.Repeat("W", n):                  api.ErrSyntax,
		strings.Repeat("T", n):                  api.ErrSyntax,
		strings.Repeat("/", n):                  api.ErrSyntax,
		strings.Repeat("3", n):                  api.ErrSyntax,
		strings.Repeat("W30", n):                api.ErrSyntax,
		strings.Repeat("T5/2", n):               api.ErrSyntax,
		strings.Repeat("\xff", n):               api.ErrSyntax,
		strings.Repeat(" ", n) + "W30":          api.ErrSyntax,
		"W" + strings.Repeat("0", n):            api.ErrSyntax,
		"W" + strings.Repeat("0", n) + "30":     api.ErrSyntax,
		"W" + strings.Repeat("3", n):            api.ErrRange,
		"W" + strings.Repeat("3", n) + "x":      api.ErrSyntax,
		"T" + strings.Repeat("5", n):            api.ErrSyntax,
		"T" + strings.Repeat("5", n) + "/2":     api.ErrRange,
		"T5/" + strings.Repeat("2", n):          api.ErrRange,
		"T5/" + strings.Repeat("0", n) + "2":    api.ErrSyntax,
		"T5" + strings.Repeat("/", n) + "2":     api.ErrSyntax,
		"T5" + strings.Repeat("/2", n):          api.ErrSyntax,
		"T" + strings.Repeat("5", n) + "/2\x00": api.ErrSyntax,
	} {
		if states, code, sum, e := wolfram.Parse(s); states != 0 || code != 0 || sum || e != want {
			t.Errorf("Parse of %d bytes %q .. is %d, %d, %v and the error %d, not %d", len(s), begin(s), states, code, sum, e, want)
		}
	}
}

// P10.5
func TestParseRandom(t *testing.T) {
	const bytes = "WT//00123456789999 \xff"
	rng := rand.New(rand.NewSource(105))
	for range 100000 {
		s := []byte(bases[rng.Intn(len(bases))])
		for range rng.Intn(5) {
			i := rng.Intn(len(s) + 1)
			s = slices.Replace(s, i, min(len(s), i+rng.Intn(2)), bytes[rng.Intn(len(bytes))])
		}
		checkParse(t, string(s))
	}
}

// P10.5: a rule that exists has new states.
func TestParsedRulesExist(t *testing.T) {
	for _, s := range bases {
		states, n, sum, e := wolfram.Parse(s)
		if e != api.OK {
			continue
		}
		notation := "W" + strconv.Itoa(n)
		if sum {
			notation = totalistic(strconv.Itoa(n), strconv.Itoa(states))
			_, e = wolfram.Digits(states, n)
		} else {
			_, e = wolfram.Elementary(n)
		}
		if e != api.OK || notation != s {
			t.Errorf("Parse(%q) is the rule %q, with the error %d", s, notation, e)
		}
	}
}

// checkParse compares Parse with the model.
func checkParse(t *testing.T, s string) {
	t.Helper()
	checkResults(t, s, parseModel(s))
}

// checkResults compares the results of Parse with what is expected.
func checkResults(t *testing.T, s string, want parsed) {
	t.Helper()
	states, n, sum, e := wolfram.Parse(s)
	if got := (parsed{states, n, sum, e}); got != want {
		t.Errorf("Parse(%q) is %v, not %v", begin(s), got, want)
	}
}
