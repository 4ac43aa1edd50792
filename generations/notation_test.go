package generations_test

import (
	"math/rand"
	"slices"
	"strconv"
	"strings"
	"testing"

	"cellular/api"
	"cellular/generations"
	"cellular/lifelike"
)

// P9.1, P9.2: both forms, with each of the three neighbourhoods.
func TestParseExamples(t *testing.T) {
	for _, c := range []struct {
		marked, bare string
		want         api.Totals
	}{
		{"B2/S/C3", "/2/3", ruleOf("", "2", "", 3)},
		{"B/S/C3", "//3", ruleOf("", "", "", 3)},
		{"B/S/C8V", "//8V", ruleOf("V", "", "", 8)},
		{"B/S/C5H", "//5H", ruleOf("H", "", "", 5)},
		{"B2/S345/C4", "345/2/4", ruleOf("", "2", "345", 4)},
		{"B/S8/C7", "8//7", ruleOf("", "", "8", 7)},
		{"B8/S/C6", "/8/6", ruleOf("", "8", "", 6)},
		{"B13/S04/C5V", "04/13/5V", ruleOf("V", "13", "04", 5)},
		{"B12/S06/C3H", "06/12/3H", ruleOf("H", "12", "06", 3)},
		{"B012345678/S012345678/C8", "012345678/012345678/8", ruleOf("", "012345678", "012345678", 8)},
		{"B01234/S01234/C8V", "01234/01234/8V", ruleOf("V", "01234", "01234", 8)},
		{"B0123456/S0123456/C8H", "0123456/0123456/8H", ruleOf("H", "0123456", "0123456", 8)},
	} {
		for _, s := range []string{c.marked, c.bare} {
			if got, e := generations.Parse(s); e != api.OK || !equal(got, c.want) {
				t.Errorf("Parse(%q) is %v and the error %d", s, got, e)
			}
		}
		if text := generations.Text(c.want); text != c.marked {
			t.Errorf("Text(%v) is %q, not %q", c.want, text, c.marked)
		}
	}
}

// P9.1: texts that are no notations, also if a number in them is out of range.
func TestParseSyntax(t *testing.T) {
	for _, s := range []string{
		"", "B", "B/S", "B/S/C", "/", "//", "///", "///3", "3", "/3", "B2", "B2/", "B2/S", "B2/S/", "B2/S3", "B3/S23", "B3/S23V", "23/3",
		"/C3", "//C3", "B/C3", "/S/C3", "B/S/3", "B//C3", "S/B/C3", "B2/S/C3/", "/2/3/", "B2/S/C3/C3", "/2/3/3", "B2/S//C3", "B2//S/C3",
		// Letters of one form in the other.
		"B2/3/4", "B2/S3/4", "B2/3/C4", "2/S3/4", "2/S3/C4", "2/3/C4", "S2/B3/C4", "S2/B3/4", "C4/B2/S3", "C3//", "B/S/B", "B2S3C4", "234",
		// Lower-case letters, spaces and signs.
		"b2/s/c3", "b2/S/C3", "B2/s/C3", "B2/S/c3", "B2/S/C3v", "B2/S/C3h", "/2/3v", "/2/3h", " B2/S/C3", "B2/S/C3 ", "B 2/S/C3",
		"B2 /S/C3", "B2/ S/C3", "B2/S /C3", "B2/S/ C3", "B2/S/C 3", "B2/S/C3 V", "B2/S/C3\n", "\tB2/S/C3", " /2/3", "/2/3 ", "/ 2/3",
		"/2 /3", "/2/ 3", "\n/2/3", "/2/3\n", "B2/S/C+3", "B2/S/C-3", "/2/+3", "/2/-3", "B+2/S/C3", "B-2/S/C3", "B2/S-3/C3", "B2/S+3/C3",
		"+/2/3", "-2/2/3", "2/+2/3", "2/-2/3", "B2,3/S/C3", "B2/S2-3/C3", "2,3/2/3", "B2/S/C3.0", "/2/3e0", "/2/0x3", "/2/1_0",
		// Digits that repeat or descend, in each of the two lists.
		"B22/S/C3", "B2/S33/C3", "B32/S/C3", "B2/S32/C3", "22/3/4", "2/33/4", "32/3/4", "2/32/4", "B232/S/C3", "B2/S232/C3", "00//3",
		"/10/3", "B21/S/C3V", "B/S11/C3H", "B2323/S/C3", "B23/S2323/C3",
		// Letters that are no neighbourhoods, or stand twice or too early.
		"B2/S/C3W", "B2/S/C3VV", "B2/S/C3HH", "B2/S/C3VH", "B2/S/C3HV", "/2/3W", "/2/3VV", "/2/3HV", "B2/SV/C3", "B2/SH/C3", "B2V/S/C3",
		"BV/S/C3", "B2/SV/C3V", "B2/S3H/C3H", "B2/S3V/C3H", "B2/S/VC3", "B2/S/CV3", "B2/S/CV", "2V/3/4", "V/2/3", "2/3V/4", "2/3V/4V",
		"2/V/3", "2H/3/4H", "2/3/V", "2/3/H", "2/3/V4", "V", "H", "//V", "VB2/S/C3", "V/2/3V",
		// Numbers of states of no, four or more digits, or beginning with 0.
		"B2/S/CV", "/2/", "/2/V", "B2/S/C0", "B2/S/C00", "B2/S/C03", "B2/S/C003", "B2/S/C0003", "B2/S/C1000", "B2/S/C3000", "B2/S/C9999",
		"/2/0", "/2/03", "/2/003", "/2/1000", "/2/30000V", "B2/S/C18446744073709551619", "/2/4294967299", "/2/3\x00",
		// Wrong in form, with a number or a digit that is out of range.
		"B9/S/C03", "B9/S/C0", "B9/S/C", "B9/S/C1000", "B2/S/C2 ", "B2/S/C2v", "B2/S/C9W", "b2/s/c2", "b9/s/c9", "B99/S/C3", "B/S98/C3",
		"B5/S/C2VV", "B22/S/C9", "B2/S33/C999", "B32/S/C1", "99/2/3", "2/98/3", "32/9/3", "9/32/3", "22/3/9", "9/9/03", "7/2/3HH",
		"5/2/03V", "B54/S/C3V", "B/S76/C9H", "B5/S/C1000V", "B2/SV/C9", "9V/2/9", "9/9", "B9/S9", "B9/9/C9", "9/S9/9", " B9/S/C9", "9//9/",
	} {
		checkError(t, s, api.ErrSyntax)
	}
}

// P9.1: notations with a number of states, or a number of neighbours, that is out of range.
func TestParseRange(t *testing.T) {
	for _, s := range []string{
		"B2/S/C1", "B2/S/C2", "B2/S/C9", "B2/S/C10", "B2/S/C12", "B2/S/C30", "B2/S/C38", "B2/S/C99", "B2/S/C100", "B2/S/C300",
		"B2/S/C999", "B2/S/C259", "B2/S/C2V", "B2/S/C9H", "/2/1", "/2/2", "/2/9", "/2/10", "/2/33", "/2/100", "/2/999", "/2/2V", "/2/9H",
		"B9/S/C3", "B/S9/C3", "B9/S9/C8", "B0123456789/S/C3", "9//3", "/9/3", "/0123456789/8", "B5/S/C3V", "B/S5/C3V", "5//3V", "/5/3V",
		"B01235/S/C4V", "89//8V", "B7/S/C3H", "B/S7/C3H", "7//3H", "/7/3H", "0123456789/0123456789/3H",
		"B9/S/C2", "B9/S9/C999", "9/9/9", "5/5/2V", "B7/S/C9H",
	} {
		checkError(t, s, api.ErrRange)
	}
}

// P9.1: each single digit, in each of the lists or in both, in both forms, with each neighbourhood.
func TestParseSingleDigits(t *testing.T) {
	for greatest, letter := range map[int]string{8: "", 4: "V", 6: "H"} {
		for n := range 10 {
			d := strconv.Itoa(n)
			want := api.OK
			if n > greatest {
				want = api.ErrRange
			}
			for _, form := range forms {
				for _, s := range []string{form(d, "", "3", letter), form("", d, "8", letter), form(d, d, "4", letter)} {
					if got, e := generations.Parse(s); e != want || isZero(got) != (want != api.OK) {
						t.Errorf("Parse(%q) is %v and the error %d, not %d", s, got, e, want)
					}
					checkParse(t, s)
				}
			}
		}
	}
}

// P9.1: all texts of up to four digits as numbers of states.
func TestParseNumbersOfStates(t *testing.T) {
	texts := []string{""}
	for i := 0; len(texts[i]) < 4; i++ {
		for d := range 10 {
			texts = append(texts, texts[i]+strconv.Itoa(d))
		}
	}
	for _, number := range texts {
		want := api.ErrRange
		switch n, _ := strconv.Atoi(number); {
		case number == "" || number[0] == '0' || len(number) == 4:
			want = api.ErrSyntax
		case n >= 3 && n <= 8:
			want = api.OK
		}
		for _, letter := range usual {
			for _, form := range forms {
				s := form("2", "34", number, letter)
				if got, e := generations.Parse(s); e != want || isZero(got) != (want != api.OK) {
					t.Errorf("Parse(%q) is %v and the error %d, not %d", s, got, e, want)
				}
				checkParse(t, s)
			}
		}
	}
}

// P9.1: bytes that are no ASCII, or no valid UTF-8, are no digits and no letters.
func TestParseOtherBytes(t *testing.T) {
	for _, s := range []string{
		"\xff", "\x00", "\xffB2/S/C3", "B\xff/S/C3", "B2\xc2/S/C3", "B9\xff/S/C9", "B2/S\x80/C3", "B2/S/\xffC3", "B2/S/C\x803",
		"B2/S/C3\xff", "B2/S/C3\xc2", "B2/S/C3V\x80", "B2/S/C3\x00", "\xef\xbb\xbfB2/S/C3", "\xb2/2/3", "\xff/2/3", "/\xff/3", "/2\xc2/3",
		"/2/\xff", "/2/3\xff", "/2/3\xb3", "/2/3V\xc0", "/2/\xc23", "\xef\xbb\xbf/2/3", "/2/3\x00", "9/9/9\xff",
		// Digits, strokes and letters of other alphabets, and a rune that has B as its lowest byte.
		"B\u00b2/S/C3", "B\u0662/S/C3", "B\uff12/S/C3", "B2/S/C\u00b3", "B2/S/C\u0663", "B2/S/C\uff13", "/2/\u0663", "/\uff12/3",
		"\uff222/S/C3", "\u03922/S/C3", "\u01422/S/C3", "B2/\u0405/C3", "B2/S/\u0421\u0033", "B2/S/\u216d3", "B2\u2215S/C3", "/2\uff0f3",
		"B2/S/C3\u2164", "B2/S/C3\u041d", "/2/3\uff36", "B2/S/C3\u0301", "B2/S/C\u200b3", "/2\u00a0/3",
	} {
		checkError(t, s, api.ErrSyntax)
	}
}

// bases are strings from which others are made by small changes.
var bases = []string{
	"", "B", "B/S", "B/S/C", "B/S/C3", "/", "//", "//3", "B/S/C8V", "//8H", "B2/S/C3", "/2/3", "B2/S345/C4", "345/2/4", "B13/S04/C5V",
	"06/12/3H", "B012345678/S012345678/C8", "01234/01234/8V", "B0123456/S0123456/C3H", "B2/S/C2", "/2/9", "B2/S/C999", "/2/100V",
	"B9/S/C3", "9//3", "B5/S/C3V", "/7/3H", "B3/S23", "23/3", "b2/s/c3", "B2/S/C03", "/2/1000", "B2/3/C4", "2/S3/4", "B2/S3V/C4", "2/3H/4",
}

// P9.1, P9.5: a byte more, a byte less or a byte exchanged at each place.
func TestParseChangedBytes(t *testing.T) {
	for _, s := range bases {
		checkParse(t, s)
		for i := range len(s) + 1 {
			for b := range 256 {
				checkParse(t, s[:i]+string([]byte{byte(b)})+s[i:])
			}
			if i == len(s) {
				continue
			}
			checkParse(t, s[:i]+s[i+1:])
			for b := range 256 {
				checkParse(t, s[:i]+string([]byte{byte(b)})+s[i+1:])
			}
		}
	}
}

// P9.1, P9.5: all strings of a few bytes, alone and behind the beginnings of both forms.
func TestParseShortStrings(t *testing.T) {
	const bytes = "B/SCVH0359"
	last := []string{""}
	for range 5 {
		var longer []string
		for _, s := range last {
			checkParse(t, s)
			for _, start := range []string{"B2", "B/S", "B2/S3/C", "2", "2/3/"} {
				checkParse(t, start+s)
			}
			for _, b := range bytes {
				longer = append(longer, s+string(b))
			}
		}
		last = longer
	}
	for _, s := range last {
		checkParse(t, s)
	}
}

// P9.1, P9.5: up to two digits in each list, in all orders.
func TestParsePairsOfDigits(t *testing.T) {
	pairs := []string{""}
	for i := range 100 {
		pair := strconv.Itoa(i/10) + strconv.Itoa(i%10)
		pairs = append(pairs, pair)
		if i < 10 {
			pairs = append(pairs, pair[1:])
		}
	}
	for _, birth := range pairs {
		for _, survive := range pairs {
			for _, letter := range usual {
				checkParse(t, marked(birth, survive, "3", letter))
				checkParse(t, bare(birth, survive, "8", letter))
			}
			checkParse(t, marked(birth, survive, "2", ""))
			checkParse(t, bare(birth, survive, "9", ""))
		}
	}
}

// P9.1, P9.5: every ascending list of digits, for Birth or for Survive.
func TestParseAllLists(t *testing.T) {
	for _, list := range subsets(10) {
		for _, letter := range usual {
			for _, other := range []string{"", "04", "23", "9"} {
				for _, form := range forms {
					checkParse(t, form(list, other, "3", letter))
					checkParse(t, form(other, list, "8", letter))
				}
			}
		}
	}
}

// P9.1: long strings.
func TestParseLongStrings(t *testing.T) {
	const n = 1 << 20
	for _, s := range []string{
		strings.Repeat("B", n), "B" + strings.Repeat("2", n) + "/S/C3", "B2/S" + strings.Repeat("3", n) + "/C3", strings.Repeat("/", n),
		"B2/S/C" + strings.Repeat("3", n), "B2/S/C" + strings.Repeat("0", n) + "3", "/2/" + strings.Repeat("9", n), "/2/3" + strings.Repeat("V", n),
		strings.Repeat("/2/3", n), strings.Repeat("B2/S/C3", n), "B2/S" + strings.Repeat("/C3", n), "B2/S/C3" + strings.Repeat(" ", n),
		strings.Repeat("0123456789", n) + "/2/3", "9/9/9" + strings.Repeat("H", n), strings.Repeat("\x00", n), strings.Repeat("\xff", n),
	} {
		if got, e := generations.Parse(s); e != api.ErrSyntax || !isZero(got) {
			t.Errorf("Parse of %d bytes %q .. is %v and the error %d", len(s), s[:8], got, e)
		}
	}
}

// P9.1, P9.5
func TestParseRandom(t *testing.T) {
	const bytes = "B/SCVH0123456789 b\xff"
	rng := rand.New(rand.NewSource(91))
	for range 200000 {
		s := []byte(bases[rng.Intn(len(bases))])
		for range rng.Intn(5) {
			i := rng.Intn(len(s) + 1)
			s = slices.Replace(s, i, min(len(s), i+rng.Intn(2)), bytes[rng.Intn(len(bytes))])
		}
		checkParse(t, string(s))
	}
}

// checkParse compares Parse with the model; the text of a result is the canonical one, and stands for the result as well.
func checkParse(t *testing.T, s string) {
	t.Helper()
	got, e := generations.Parse(s)
	want, expected := parseModel(s)
	if e != expected || !equal(got, want) {
		t.Errorf("Parse(%q) is %v and the error %d, not %v and %d", s, got, e, want, expected)
	}
	if e != api.OK {
		return
	}
	text := generations.Text(got)
	if again, e := generations.Parse(text); e != api.OK || !equal(again, want) || text != textModel(want) {
		t.Errorf("Parse(%q) is %v with the text %q, which stands for %v, with the error %d", s, got, text, again, e)
	}
}

// checkError compares the error of Parse with what is expected.
func checkError(t *testing.T, s string, want api.Errno) {
	t.Helper()
	if got, e := generations.Parse(s); e != want || !isZero(got) {
		t.Errorf("Parse(%q) is %v and the error %d, not %d", s, got, e, want)
	}
}

// P9.1: two results share no memory, and neither do the lists of one.
func TestParseResultsAreNew(t *testing.T) {
	for _, s := range []string{
		"B/S/C3", "//8V", "B2/S2/C4", "3/3/3H", "B2/S345/C4", "345/2/4", "23/23/5V", "B012345678/S012345678/C8", "01234/01234/8V",
	} {
		want, _ := parseModel(s)
		for part := range parts {
			first, _ := generations.Parse(s)
			second, _ := generations.Parse(s)
			rest := spoil(second, part)
			if !equal(first, want) {
				t.Errorf("a change of the next result of Parse(%q) leads to %v", s, first)
			}
			if !equal(rest, spoil(laidOut(want), part)) {
				t.Errorf("a change of the list %d of Parse(%q) leads to %v", part, s, rest)
			}
			checkParse(t, s)
		}
	}
}

// P9.2: rules that are not valid, or have two states, have no notation.
func TestTextOfSomeRules(t *testing.T) {
	for _, r := range append(someRules(), validRules()...) {
		unchanged(t, r, func(r api.Totals) {
			if got := generations.Text(r); got != textModel(r) {
				t.Errorf("Text(%v) is %q", short(r), got)
			}
		})
	}
	for _, s := range ints {
		want := ""
		if s >= 3 && s <= api.MaxStates {
			want = "B2/S345/C" + strconv.Itoa(s)
		}
		if got := generations.Text(ruleOf("", "2", "345", s)); got != want {
			t.Errorf("with %d states the text is %q, not %q", s, got, want)
		}
	}
}

// P9.2, P9.5: every rule of all three neighbourhoods, with each number of states.
func TestRoundTripOfAllRules(t *testing.T) {
	for states := 3; states <= api.MaxStates; states++ {
		for _, letter := range usual {
			t.Run(marked("", "", strconv.Itoa(states), letter), func(t *testing.T) {
				t.Parallel()
				checkRoundTrips(t, letter, states)
			})
		}
	}
}

// checkRoundTrips checks the notations of all rules with the neighbourhood of a letter and a number of states.
func checkRoundTrips(t *testing.T, letter string, states int) {
	want := ruleOf(letter, "", "", states)
	number := strconv.Itoa(states)
	for birth, survive := range everyList(letter) {
		want.Birth, want.Survive = numbers(birth), numbers(survive)
		s := generations.Text(want)
		if s != marked(birth, survive, number, letter) {
			t.Fatalf("Text(%v) is %q", want, s)
		}
		if got, e := generations.Parse(s); e != api.OK || !equal(got, want) {
			t.Fatalf("Parse(%q) is %v and the error %d", s, got, e)
		}
	}
}

// P9.1: the form without letters, for every rule of the two smaller neighbourhoods.
func TestParseBareFormOfAllRules(t *testing.T) {
	for _, letter := range []string{"V", "H"} {
		for birth, survive := range everyList(letter) {
			want := ruleOf(letter, birth, survive, 3+(len(birth)+2*len(survive))%6)
			s := bare(birth, survive, strconv.Itoa(want.States), letter)
			if got, e := generations.Parse(s); e != api.OK || !equal(got, want) {
				t.Fatalf("Parse(%q) is %v and the error %d", s, got, e)
			}
		}
	}
}

// P9.7: the notation is that of the plain rule, with the number of states inserted.
func TestTextOfPlainRule(t *testing.T) {
	for _, r := range validRules() {
		if r.States == 2 {
			continue
		}
		plain := lifelike.Text(generations.Plain(r))
		end := strings.TrimLeft(plain, "BS/0123456789")
		want := strings.TrimSuffix(plain, end) + "/C" + strconv.Itoa(r.States) + end
		if got := generations.Text(r); plain == "" || got != want {
			t.Errorf("Text(%v) is %q, not %q", r, got, want)
		}
	}
}
