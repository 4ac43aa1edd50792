package notation_test

import (
	"math/rand"
	"slices"
	"strings"
	"testing"

	"cellular/api"
	"cellular/notation"
)

// rowTable is the first example of chapter 11.
const rowTable = "states 2\nhood line\nsymmetry none\nvar a 0 1\n1 a 0 -> 1\na 1 a -> 0\n"

// texts are texts of each kind, by the kind: canonical and not, and such with the right form that no rule has.
var texts = [][]string{
	{
		"", "life", "b3/s23", "B3/s23", "b3/S23", "B3S23", "B3/S32", "B33/S", "B3/S23W", "B3/S23VH", "B3/S23v", "B3V/S23", "B3/S23/", "B3-S23",
		" B3/S23", "B3/S23 ", "B3 /S23", "B3/S2 3", "B", "B/", "B3", "B3/", "/S", "S23/B3", "23/3", "/", "3/23/", "//", "///", "//3/", "3",
		"B2/S/C", "B2/S/C0", "B2/S/C03", "B2/S/C1000", "B2/S/c3", "B2/S/3", "B2//C3", "/2/C3", "B2/S/C3VV", "B2/SV/C3", "2/3/04", "23/3/04",
		"2/32/4", "22/3/4", "2/3/4W", "2/3/4v", "2/3/1000", "+2/3/4", "2/3/-4", "W", "w30", "W030", "W00", "W-1", "W+1", "W30 ", " W30", "W3.0",
		"W30/2", "30", "T", "T7", "T7/", "T/2", "t7/2", "T07/2", "T7/02", "T-7/2", "T7/2/", "T7/2/2", "T7 /2", "T7/+2", "7/2", "TW30", "WT7/2",
		"states 2", "states 2 hood line symmetry none", "states 2\rhood line\rsymmetry none\r", "\r", "\x00", "\t", " ", "#", "\v", "\f",
		"\\n", "\u0085", "\u2028", "\u2029", "\u010a", "\u0a0a", "\x8a", "\xff", "\xef\xbb\xbfB3/S23", "B3/S23\x00", "W\u0663\u0660", "\uff2230",
	},
	{
		"B3/S23", "B/S", "B/SV", "B/SH", "B2/S34H", "B13/S012V", "B012345678/S012345678", "B01234/S01234V", "B0123456/S0123456H", "B0/S", "B/S8",
		"B9/S", "B/S9", "B0123456789/S0123456789", "B5/SV", "B/S5V", "B8/S8V", "B7/SH", "B/S7H", "B9/S9H", "B0123456789/S0123456789V",
	},
	{
		"B2/S/C3", "B/S/C3", "B/S/C8V", "B/S/C8H", "B2/S345/C4", "B012345678/S012345678/C8", "B13/S024/C5V", "B26/S34/C6H",
		"/2/3", "//3", "//8V", "//8H", "345/2/4", "012345678/012345678/8", "024/13/5V", "34/26/6H",
		"B2/S/C1", "B2/S/C2", "B2/S/C9", "B2/S/C10", "B2/S/C300", "B2/S/C999", "B2/S/C2V", "B9/S/C3", "B/S9/C3", "B5/S/C3V", "B/S5/C3V", "B7/S/C3H",
		"B/S7/C3H", "B9/S9/C999", "/2/1", "/2/2", "/2/9", "/2/10", "/2/999", "//2H", "9//3", "/9/3", "5//3V", "/5/3V", "7//3H", "/7/3H", "9/9/999H",
	},
	{
		"W0", "W1", "W30", "W90", "W110", "W255",
		"W256", "W1000", "W4294967296", "W18446744073709551646", "W" + strings.Repeat("9", 1000),
	},
	{
		"T0/2", "T6/2", "T15/2", "T0/3", "T777/3", "T2186/3", "T0/8", "T9223372036854775807/8",
		"T16/2", "T2187/3", "T0/0", "T0/1", "T0/9", "T6/10", "T6/4294967298", "T9223372036854775808/8", "T18446744073709551622/2",
		"T" + strings.Repeat("9", 1000) + "/2", "T0/" + strings.Repeat("9", 1000),
	},
	{
		rowTable, strings.TrimSuffix(rowTable, "\n"), "states 2\nhood moore\nsymmetry reflect\n", " states\t8 #\n\n#\nhood line\nsymmetry permute",
		"\n", "\n\n", "\n\n\n", "#\n", "states 9\n", "states 2\n", "states 2\nhood\n", "life\n", "\nlife", "b3/s23\n", "\r\n", "\n\r", "\x00\n",
		"\xff\n\xfe", "\n\x80", "B3/S23\n", "\nB3/S23", "B3\n/S23", "B2/S/C3\n", "/2/3\n", "\n/2/3", "W30\n", "\nW30", "W3\n0", "T6/2\n",
		"\nT6/2", "T6\n/2", "B9/S\n", "W256\n", "T16/2\n", "//2\n", "B3/S23\nB3/S23", "W30\nW30\n",
	},
}

// P16.1, P16.2, P16.3, P16.5: texts of each kind, and those that have none.
func TestTexts(t *testing.T) {
	for kind, list := range texts {
		for _, s := range list {
			if got := notation.Kind(s); got != kind {
				t.Errorf("Kind(%s) is %d, not %d", quote(s), got, kind)
			}
			checkText(t, s)
		}
	}
}

// P16.1, P16.2, P16.3: with a line feed at any place, a text of another kind has the kind 5, but it is no table.
func TestKindLineFeed(t *testing.T) {
	for _, s := range slices.Concat(texts[1:5]...) {
		for i := 0; i <= len(s); i += 1 + len(s)/50 {
			checkError(t, s[:i]+"\n"+s[i:], 5, api.ErrSyntax)
		}
	}
}

// changed returns the texts that differ from a given one by a byte: each byte is left out or replaced, or another one is inserted.
func changed(s string, bytes []byte) []string {
	var list []string
	for i := range len(s) + 1 {
		for _, b := range bytes {
			list = append(list, s[:i]+string([]byte{b})+s[i:])
			if i < len(s) {
				list = append(list, s[:i]+string([]byte{b})+s[i+1:])
			}
		}
		if i < len(s) {
			list = append(list, s[:i]+s[i+1:])
		}
	}
	return list
}

// allBytes returns all bytes.
func allBytes() []byte {
	l := make([]byte, 256)
	for i := range l {
		l[i] = byte(i)
	}
	return l
}

// P16.1, P16.2, P16.3, P16.5: texts that miss a form by one byte, or have it still, and those that come from the empty text.
func TestChangedBytes(t *testing.T) {
	t.Parallel()
	found := map[int]int{}
	for _, s := range []string{
		"", "B3/S23", "B/SV", "B2/S34H", "B9/S", "B2/S/C3", "B13/S2/C5V", "B2/S/C10H", "/2/3", "2/13/5V", "W0", "W30", "W255", "W256", "T6/2",
		"T777/3", "T16/2", "T0/9", "\n", "B3/S23\n",
	} {
		for _, other := range changed(s, allBytes()) {
			checkText(t, other)
			found[notation.Kind(other)]++
		}
	}
	for kind := range texts {
		if found[kind] < 100 {
			t.Errorf("only %d texts have the kind %d", found[kind], kind)
		}
	}
}

// P16.2, P16.3, P16.5: tables that differ by one byte from one with a tree.
func TestChangedTables(t *testing.T) {
	t.Parallel()
	found := map[api.Errno]int{}
	for _, other := range changed(rowTable, []byte("\x00\n\t #-019a>\xff")) {
		checkText(t, other)
		_, e := notation.Parse(other)
		found[e]++
	}
	for _, e := range []api.Errno{api.OK, api.ErrSyntax, api.ErrRange, api.ErrName} {
		if found[e] == 0 {
			t.Errorf("no changed table leads to the error %d", e)
		}
	}
}

// P16.1: all texts of up to five of the bytes that have a meaning.
func TestKindShortTexts(t *testing.T) {
	t.Parallel()
	found := map[int]bool{}
	last := []string{""}
	for range 6 {
		var longer []string
		for _, s := range last {
			kinds := append(formsOf(s), 0)
			if got := notation.Kind(s); got != kinds[0] || len(kinds) > 2 {
				t.Errorf("Kind(%s) is %d, and the forms are %v", quote(s), got, kinds)
			}
			found[kinds[0]] = true
			for _, b := range "BSCVWT/023\n" {
				longer = append(longer, s+string(b))
			}
		}
		last = longer
	}
	if len(found) != 6 {
		t.Errorf("the kinds are %v", found)
	}
}

// P16.1, P16.2, P16.3: any bytes, with line feeds and without, also behind a text that has a form.
func TestRandomBytes(t *testing.T) {
	rng := rand.New(rand.NewSource(161))
	for range 20000 {
		s := make([]byte, rng.Intn(30))
		for i := range s {
			s[i] = byte(rng.Intn(256))
		}
		before := texts[rng.Intn(6)]
		checkText(t, string(s))
		checkText(t, before[rng.Intn(len(before))]+string(s))
	}
}

// P16.1, P16.2, P16.3, P16.5: texts that are put together from parts of notations.
func TestRandomTexts(t *testing.T) {
	t.Parallel()
	parts := []string{"B", "/S", "/C", "/", "V", "H", "W", "T", "3", "23", "2", "0", "012", "4", "9", "10", "30", "\n", ""}
	rng := rand.New(rand.NewSource(162))
	for range 20000 {
		var s string
		for range rng.Intn(8) {
			s += parts[rng.Intn(len(parts))]
		}
		checkText(t, s)
		checkText(t, "B"+digits(rng)+"/S"+digits(rng)+parts[rng.Intn(len(parts))])
		checkText(t, digits(rng)+"/"+digits(rng)+"/"+parts[rng.Intn(len(parts))])
	}
}

// digits returns some ascending digits, most of which may be numbers of neighbours.
func digits(rng *rand.Rand) string {
	var s []byte
	for d := byte('0'); d <= '8'; d++ {
		if rng.Intn(3) == 0 {
			s = append(s, d)
		}
	}
	return string(s)
}

// P16.1, and rule 1 for all calls: long texts.
func TestLongTexts(t *testing.T) {
	const n = 1 << 20
	checkFaults(t, []fault{
		{strings.Repeat("B", n), 0, api.ErrName},
		{"B" + strings.Repeat("3", n) + "/S", 0, api.ErrName},
		{strings.Repeat("B3/S23", n/6), 0, api.ErrName},
		{strings.Repeat("V", n), 0, api.ErrName},
		{strings.Repeat("/", n), 0, api.ErrName},
		{"/2/" + strings.Repeat("3", n), 0, api.ErrName},
		{"W" + strings.Repeat("3", n), 3, api.ErrRange},
		{"W" + strings.Repeat("0", n), 0, api.ErrName},
		{"T" + strings.Repeat("3", n) + "/2", 4, api.ErrRange},
		{"T6/" + strings.Repeat("2", n), 4, api.ErrRange},
		{strings.Repeat("\xff", n), 0, api.ErrName},
		{strings.Repeat("#", n), 0, api.ErrName},
		{strings.Repeat("\xff", n) + "\n", 5, api.ErrSize},
		{"\n" + strings.Repeat("B", n), 5, api.ErrSize},
		{strings.Repeat("\n", n), 5, api.ErrSize},
	})
}

// P16.1, and rule 5 for all calls: the kinds do not depend on the calls before.
func TestKindAgain(t *testing.T) {
	for range 3 {
		for i := range 40 {
			for kind, list := range texts {
				s := list[i%len(list)]
				if got := notation.Kind(s); got != kind {
					t.Errorf("Kind(%s) is %d, not %d", quote(s), got, kind)
				}
			}
		}
	}
}
