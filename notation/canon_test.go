package notation_test

import (
	"fmt"
	"math/rand"
	"strconv"
	"strings"
	"testing"

	"cellular/api"
	"cellular/notation"
	"cellular/wolfram"
)

// checkCanon compares Canon, for a text and for its canonical text, with the expected text, and checks that both texts have the same kind
// and the same tree.
func checkCanon(t *testing.T, s, want string) {
	t.Helper()
	for _, text := range []string{s, want} {
		if got, e := notation.Canon(text); got != want || e != api.OK {
			t.Errorf("Canon(%s) is %s with the error %d, not %s", quote(text), quote(got), e, quote(want))
		}
	}
	if a, b := notation.Kind(s), notation.Kind(want); a != b {
		t.Errorf("the kind of %s is %d, and that of its canonical text is %d", quote(s), a, b)
	}
	a, e := notation.Parse(s)
	b, same := notation.Parse(want)
	checkTree(t, b, same, a, e, "Parse of the canonical text of "+quote(s))
}

// P16.3, P16.5: texts that are canonical, and texts that are not.
func TestCanon(t *testing.T) {
	for _, c := range [][2]string{
		{"B3/S23", "B3/S23"}, {"B/S", "B/S"}, {"B/SV", "B/SV"}, {"B2/S34H", "B2/S34H"}, {"B012345678/S012345678", "B012345678/S012345678"},
		{"B2/S/C3", "B2/S/C3"}, {"/2/3", "B2/S/C3"}, {"//3", "B/S/C3"}, {"345/2/4", "B2/S345/C4"}, {"B2/S345/C4", "B2/S345/C4"},
		{"13/024/5V", "B024/S13/C5V"}, {"//8H", "B/S/C8H"}, {"B26/S34/C6H", "B26/S34/C6H"}, {"34/26/6H", "B26/S34/C6H"},
		{"W0", "W0"}, {"W30", "W30"}, {"W255", "W255"},
		{"T0/2", "T0/2"}, {"T777/3", "T777/3"}, {"T9223372036854775807/8", "T9223372036854775807/8"},
		{rowTable, "states 2\nhood line\nsymmetry none\nvar v0 0 1\n1 v0 0 -> 1\nv0 1 v0 -> 0\n"},
		{"states 2\nhood line\nsymmetry none", "states 2\nhood line\nsymmetry none\n"},
		{"\n# 2\n\n states\t2\nhood   line#\nsymmetry none \n\n", "states 2\nhood line\nsymmetry none\n"},
		{"states 3\nhood neumann\nsymmetry rotate\n", "states 3\nhood neumann\nsymmetry rotate\n"},
		{"states 3\nhood moore\nsymmetry reflect\n", "states 3\nhood moore\nsymmetry reflect\n"},
		{"states 4\nhood hex\nsymmetry permute\n", "states 4\nhood hex\nsymmetry permute\n"},
		// Names that are those of other variables in the canonical text, and variables that no row has.
		{
			lines("states 3", "hood line", "symmetry none", "var v1 0 1", "var v0 2", "var B 1", "v1 v0 v1 -> v0", " 0  0 0 ->  0"),
			lines("states 3", "hood line", "symmetry none", "var v0 0 1", "var v1 2", "var v2 1", "v0 v1 v0 -> v1", "0 0 0 -> 0"),
		},
	} {
		checkCanon(t, c[0], c[1])
	}
}

// P16.3, P16.5: rules by counts, in all notations.
func TestCanonCounts(t *testing.T) {
	rng := rand.New(rand.NewSource(166))
	for letter := range usual {
		for states := 2; states <= api.MaxStates; states++ {
			for _, x := range someTotals(rng, letter, states) {
				all := notationsOf(letter, x)
				for _, s := range all {
					checkCanon(t, s, all[0])
				}
			}
		}
	}
}

// P16.3: the canonical text of a rule of rows is the text itself, just if it has a tree: no text of the kinds 3 and 4 is wrong for the tree
// alone.
func TestCanonRows(t *testing.T) {
	list := []string{"W18446744073709551616", "T9223372036854775808/8", "T0/0", "T0/1", "T0/9", "T0/18446744073709551618"}
	for n := range 300 {
		list = append(list, "W"+strconv.Itoa(n))
		for states := range 11 {
			list = append(list, fmt.Sprintf("T%d/%d", n, states))
		}
	}
	for _, s := range list {
		var want string
		_, _, _, wanted := wolfram.Parse(s)
		if wanted == api.OK {
			want = s
		}
		if got, e := notation.Canon(s); got != want || e != wanted {
			t.Errorf("Canon(%s) is %s with the error %d, not %d", quote(s), quote(got), e, wanted)
		}
		if _, e := notation.Parse(s); e != wanted {
			t.Errorf("Parse(%s) is the error %d, not %d", quote(s), e, wanted)
		}
	}
}

// P16.3, P16.5: the table with the most variables and rows, whose names become longer.
func TestCanonLargestTable(t *testing.T) {
	name := func(i int) string { return string(rune('A' + i%26 + i/26*32)) }
	table := func(name func(i int) string) string {
		l := []string{"states 2", "hood moore", "symmetry none"}
		for v := range api.MaxVars {
			l = append(l, "var "+name(v)+" 0 1")
		}
		last := name(api.MaxVars - 1)
		for i := range api.MaxRows {
			l = append(l, name(i%api.MaxVars)+strings.Repeat(" "+last, 8)+" -> "+last)
		}
		return lines(l...)
	}
	checkCanon(t, table(name), table(func(i int) string { return "v" + strconv.Itoa(i) }))
}

// P16.5: the texts of kinds 1 to 5 that the other tests read, each with its canonical text.
func TestCanonAgain(t *testing.T) {
	number := 0
	for _, list := range texts {
		for _, s := range list {
			if canon, e := notation.Canon(s); e == api.OK {
				checkCanon(t, s, canon)
				number++
			}
		}
	}
	for _, c := range tables {
		canon, _ := notation.Canon(c.s)
		checkCanon(t, c.s, canon)
	}
	if number < 40 {
		t.Errorf("only %d texts have a canonical text", number)
	}
}
