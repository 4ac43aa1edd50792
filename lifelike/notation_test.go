package lifelike_test

import (
	"math/rand"
	"strings"
	"testing"

	"cellular/api"
	"cellular/lifelike"
)

// P8.2
func TestParseExamples(t *testing.T) {
	for s, want := range map[string]api.Totals{
		"B3/S23":                ruleOf("", 1<<3, 1<<2|1<<3),
		"B36/S23":               ruleOf("", 1<<3|1<<6, 1<<2|1<<3),
		"B/S":                   ruleOf("", 0, 0),
		"B/SV":                  ruleOf("V", 0, 0),
		"B/SH":                  ruleOf("H", 0, 0),
		"B2/S":                  ruleOf("", 1<<2, 0),
		"B/S8":                  ruleOf("", 0, 1<<8),
		"B2/S34H":               ruleOf("H", 1<<2, 1<<3|1<<4),
		"B0/S0V":                ruleOf("V", 1, 1),
		"B4/S4V":                ruleOf("V", 1<<4, 1<<4),
		"B6/S6H":                ruleOf("H", 1<<6, 1<<6),
		"B012345678/S012345678": ruleOf("", 1<<9-1, 1<<9-1),
		"B01234/S01234V":        ruleOf("V", 1<<5-1, 1<<5-1),
		"B0123456/S0123456H":    ruleOf("H", 1<<7-1, 1<<7-1),
	} {
		got, e := lifelike.Parse(s)
		if e != api.OK || !equal(got, want) {
			t.Errorf("Parse(%q) is %v and the error %d", s, got, e)
		}
		if text := lifelike.Text(want); text != s {
			t.Errorf("Text(%v) is %q", want, text)
		}
	}
}

// P8.2: both errors, of which the one of the form comes first.
func TestParseErrors(t *testing.T) {
	for _, s := range []string{
		"", "B", "B/", "/", "/S", "S", "V", "H", "B3", "B3/", "3/23", "23/3", "b3/s23", "b3/S23", "B3/s23", "B3/S23v", "B3/S23h",
		"B3/S32", "B33/S", "B3/S22", "B21/S", "B3S23", "B3//S23", "B3/SS23", "BB3/S23", "B3/S23W", "B3/S23VV", "B3/S23HH", "B3/S23VH",
		"B3/S23HV", "B3/SV23", "BV3/S23", "B3V/S23", "B3/S 23", " B3/S23", "B3/S23 ", "B3 /S23", "B3/S23\n", "B3/S23/", "B3/S23/C3",
		"S23/B3", "B3/S-1", "B+3/S23", "B3/S2,3", "B3/S2-3", "B10/S", "B3/S23B3/S23", "B\\S", "B3|S23",
		// Wrong in form, with a digit that is too great.
		"B99/S", "B98/S", "B/S99", "B/S98", "b9/s", "B9S", "B9/S ", "B9", "B9/", "B/S9W", "B9/SVV", "B5/S10V", "B54/SV", "B55/SV",
		"B/S7HH", "B76/SH", "B5/S0v", "B90/S", "B/S5V ", "9B/S", "B9/S9\n",
	} {
		checkError(t, s, api.ErrSyntax)
	}
	for _, s := range []string{
		"B9/S", "B/S9", "B9/S9", "B89/S", "B0123456789/S", "B3/S0123456789", "B5/SV", "B/S5V", "B8/SV", "B9/SV", "B01234/S5V",
		"B012345/S01234V", "B6/SV", "B7/SH", "B/S7H", "B8/SH", "B/S9H", "B0123456/S01234567H", "B67/SH", "B/S67H",
	} {
		checkError(t, s, api.ErrRange)
	}
}

// P8.2: each single digit with each neighbourhood.
func TestParseSingleDigits(t *testing.T) {
	for greatest, letter := range map[int]string{8: "", 4: "V", 6: "H"} {
		for n := range 10 {
			digit := string(rune('0' + n))
			for _, s := range []string{"B" + digit + "/S" + letter, "B/S" + digit + letter, "B" + digit + "/S" + digit + letter} {
				if n > greatest {
					checkError(t, s, api.ErrRange)
				}
				checkParse(t, s)
			}
		}
	}
}

// P8.2: bytes that are no ASCII, or no valid UTF-8, are no digits and no letters.
func TestParseOtherBytes(t *testing.T) {
	for _, s := range []string{
		// Bytes above 127 and the byte 0, at the beginning, within and at the end.
		"\xff", "\xffB3/S23", "B\xff/S", "B3\xc2/S23", "B9\xff/S", "B3/S23\xff", "B3/S23\x80", "B3/S23V\xc0", "B/S5V\x80",
		"\xb3/S23", "B\xb3/S23", "\xef\xbb\xbfB3/S23", "B3/S23\x00", "B\x003/S23", "B3/S23\u0301", "B3/S2\u200b3", "B3\u00a0/S23",
		// Digits, strokes and letters of other alphabets, and a rune that has B as its lowest byte.
		"B\u00b3/S23", "B\u0663/S23", "B\uff13/S23", "\uff223/S23", "\u03923/S23", "\u01423/S23", "B3\u2215S23", "B3\uff0fS23",
		"B3/\uff3323", "B3/\u040523", "B/S\u2164", "B/S\uff36", "B/S\u041d",
	} {
		checkError(t, s, api.ErrSyntax)
	}
}

// bases are strings from which others are made by small changes.
var bases = []string{
	"", "B", "B/S", "B/SV", "B/SH", "B3/S23", "B36/S23", "B2/S34H", "B13/S02V", "B01234/S4V", "B4/S01234V", "B0123456/S0123456H",
	"B012345678/S012345678", "B9/S", "B/S9", "B5/SV", "B/S5V", "B7/SH", "B/S7H", "B99/S", "B3S23", "b3/s23", "B3/S32", "B3/S23W",
}

// P8.2, P8.3: a byte more, a byte less or a byte exchanged at each place.
func TestParseChangedBytes(t *testing.T) {
	for _, s := range bases {
		checkParse(t, s)
		for i := range len(s) + 1 {
			for b := range 256 {
				checkParse(t, s[:i]+string([]byte{byte(b)})+s[i:])
			}
			if i == len(s) {
				continue
			}
			checkParse(t, s[:i]+s[i+1:])
			for b := range 256 {
				checkParse(t, s[:i]+string([]byte{byte(b)})+s[i+1:])
			}
		}
	}
}

// P8.2, P8.3: all strings of a few bytes.
func TestParseShortStrings(t *testing.T) {
	const bytes = "B/SVHb0459"
	last := []string{""}
	for range 5 {
		var longer []string
		for _, s := range last {
			checkParse(t, s)
			checkParse(t, "B/S"+s)
			for _, b := range bytes {
				longer = append(longer, s+string(b))
			}
		}
		last = longer
	}
	for _, s := range last {
		checkParse(t, s)
	}
}

// P8.2, P8.3: up to two digits, in all orders, with all ends.
func TestParsePairsOfDigits(t *testing.T) {
	digits := []string{""}
	for i := range 100 {
		pair := string([]byte{byte('0' + i/10), byte('0' + i%10)})
		digits = append(digits, pair)
		if i < 10 {
			digits = append(digits, pair[1:])
		}
	}
	for _, birth := range digits {
		for _, survive := range digits {
			for _, end := range []string{"", "V", "H", "W", "VV", "v"} {
				checkParse(t, "B"+birth+"/S"+survive+end)
			}
		}
	}
}

// P8.2, P8.3: every ascending list of digits, for Birth or for Survive.
func TestParseAllLists(t *testing.T) {
	for bits := range 1 << 10 {
		list := ""
		for _, n := range numbersOf(bits) {
			list += string(rune('0' + n))
		}
		for _, letter := range usual {
			for _, other := range []string{"", "0", "4", "23", "9"} {
				checkParse(t, "B"+list+"/S"+other+letter)
				checkParse(t, "B"+other+"/S"+list+letter)
			}
		}
	}
}

// P8.2: long strings.
func TestParseLongStrings(t *testing.T) {
	const n = 1 << 20
	for _, s := range []string{
		strings.Repeat("B", n), "B" + strings.Repeat("3", n) + "/S23", "B3/S" + strings.Repeat("0123456789", n),
		"B/S" + strings.Repeat("V", n), strings.Repeat("B3/S23", n), "B3/S23" + strings.Repeat(" ", n), strings.Repeat("\x00", n),
		"B" + strings.Repeat("/S", n), "B9/S" + strings.Repeat("9", n), strings.Repeat("\xff", n),
	} {
		if got, e := lifelike.Parse(s); e != api.ErrSyntax || !isZero(got) {
			t.Errorf("Parse of %d bytes %q .. is %v and the error %d", len(s), s[:8], got, e)
		}
	}
}

// P8.2, P8.3
func TestParseRandom(t *testing.T) {
	const bytes = "B/SVH0123456789 b\xff"
	rng := rand.New(rand.NewSource(82))
	for range 100000 {
		s := []byte(bases[rng.Intn(len(bases))])
		for range rng.Intn(4) {
			i := rng.Intn(len(s) + 1)
			s = append(s[:i], append([]byte{bytes[rng.Intn(len(bytes))]}, s[min(len(s), i+rng.Intn(2)):]...)...)
		}
		checkParse(t, string(s))
	}
}

// checkParse compares Parse with the model; the text of the result has to be the string.
func checkParse(t *testing.T, s string) {
	t.Helper()
	got, e := lifelike.Parse(s)
	want, expected := parseModel(s)
	if e != expected || !equal(got, want) {
		t.Errorf("Parse(%q) is %v and the error %d, not %v and %d", s, got, e, want, expected)
	}
	if e != api.OK {
		if !isZero(got) {
			t.Errorf("Parse(%q) is %v with the error %d", s, got, e)
		}
		return
	}
	if text := lifelike.Text(got); text != s || !lifelike.Right(got) {
		t.Errorf("Parse(%q) is %v, whose text is %q", s, got, text)
	}
}

// checkError compares the error of Parse with what is expected.
func checkError(t *testing.T, s string, want api.Errno) {
	t.Helper()
	if got, e := lifelike.Parse(s); e != want || !isZero(got) {
		t.Errorf("Parse(%q) is %v and the error %d, not %d", s, got, e, want)
	}
}

// P8.2: two results share no memory, and neither do the lists of one.
func TestParseResultsAreNew(t *testing.T) {
	for _, s := range []string{"B/S", "B/SV", "B3/S3H", "B3/S23", "B23/S23V", "B012345678/S012345678", "B01234/S01234V"} {
		want, _ := parseModel(s)
		for part := range parts {
			first, _ := lifelike.Parse(s)
			second, _ := lifelike.Parse(s)
			spoil(second, part)
			if !equal(first, want) {
				t.Errorf("a change of the next result of Parse(%q) leads to %v", s, first)
			}
			if !equal(without(second, part), without(want, part)) {
				t.Errorf("a change of the list %d of Parse(%q) leads to %v", part, s, second)
			}
			checkParse(t, s)
		}
	}
}

// P8.2: rules without a notation have no text.
func TestTextOfSomeRules(t *testing.T) {
	for _, r := range someRules() {
		unchanged(t, r, func(r api.Totals) {
			if got := lifelike.Text(r); got != textModel(r) {
				t.Errorf("Text(%v) is %q", short(r), got)
			}
		})
	}
	for _, s := range states {
		r := api.Totals{Hood: usualHood(""), States: s, Birth: []int{3}, Survive: []int{2, 3}}
		if got := lifelike.Text(r); (got == "B3/S23") != (s == 2) || (got == "") != (s != 2) {
			t.Errorf("Text of B3/S23 with %d states is %q", s, got)
		}
	}
}

// P8.2, P8.3: every rule with two states.
func TestRoundTripOfAllRules(t *testing.T) {
	for _, letter := range usual {
		for r := range everyRule(letter) {
			s := lifelike.Text(r)
			if s != textModel(r) {
				t.Fatalf("Text(%v) is %q", r, s)
			}
			if got, e := lifelike.Parse(s); e != api.OK || !equal(got, r) || !lifelike.Right(got) {
				t.Fatalf("Parse(%q) is %v and the error %d", s, got, e)
			}
		}
	}
}
