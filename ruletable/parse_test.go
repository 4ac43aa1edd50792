package ruletable_test

import (
	"math/rand"
	"slices"
	"strconv"
	"strings"
	"testing"

	"cellular/api"
	"cellular/ruletable"
)

// head are the first three lines of most texts.
var head = []string{"states 3", "hood line", "symmetry none"}

// checkParse compares Parse with the model.
func checkParse(t *testing.T, s string) {
	t.Helper()
	want, place, expected := parseModel(s)
	got, line, e := ruletable.Parse(s)
	if !sameModel(got, want) || line != place || e != expected {
		t.Errorf("Parse(%q) is %s, %d and %d, not %s, %d and %d", begin(s), show(got), line, e, show(want), place, expected)
	}
	if e == api.OK && (!ruletable.Right(got) || !rightModel(got)) {
		t.Errorf("Parse(%q) is not valid: %s", begin(s), show(got))
	}
}

// checkFault checks that Parse returns an error for lines, with and without a line feed at their end.
func checkFault(t *testing.T, e api.Errno, line int, text ...string) {
	t.Helper()
	for _, s := range []string{lines(text...), strings.Join(text, "\n")} {
		got, place, fault := ruletable.Parse(s)
		if !isZero(got) || place != line || fault != e {
			t.Errorf("Parse(%q) is %s, %d and %d, not %d and %d", begin(s), show(got), place, fault, line, e)
		}
		checkParse(t, s)
	}
}

// checkTable checks that Parse returns a table for lines, with and without a line feed at their end.
func checkTable(t *testing.T, want api.Table, text ...string) {
	t.Helper()
	for _, s := range []string{lines(text...), strings.Join(text, "\n")} {
		got, line, e := ruletable.Parse(s)
		if !sameModel(got, want) || line != 0 || e != api.OK {
			t.Errorf("Parse(%q) is %s, %d and %d, not %s", begin(s), show(got), line, e, show(want))
		}
		checkParse(t, s)
	}
}

// with returns lines with others behind them.
func with(text []string, more ...string) []string {
	return append(slices.Clone(text), more...)
}

// P11.3: the examples of the chapter.
func TestParseExamples(t *testing.T) {
	checkTable(t, api.Table{
		States: 2, Hood: []api.Point{{X: -1}, {}, {X: 1}}, Vars: [][]int{{0, 1}}, Rows: []api.Row{row(1, 1, -1, 0), row(0, -1, 1, -1)},
	}, "states 2", "hood line", "symmetry none", "var a 0 1", "1 a 0 -> 1", "a 1 a -> 0")
	checkTable(t, api.Table{
		States: 2, Sym: api.SymRotate, Hood: []api.Point{{Y: -1}, {X: -1}, {}, {X: 1}, {Y: 1}}, Rows: []api.Row{row(1, 1, 0, 0, 0, 0)},
	}, "states 2", "hood neumann", "symmetry rotate", "1 0 0 0 0 -> 1")
	checkFault(t, api.ErrArg, 3, "states 2", "hood hex", "symmetry rotate")
	checkFault(t, api.ErrShort, 0)
}

// P11.3: variables are numbered in the order of their lines, and elements refer to them by name.
func TestParseVariables(t *testing.T) {
	want := api.Table{States: 4, Sym: api.SymPermute, Hood: drawn(named["line"]), Vars: [][]int{{0, 3}, {1, 2, 3}, {2}, {0, 3}}}
	want.Rows = []api.Row{row(-1, -4, -1, -3), row(-3, -3, -3, -3), row(3, -1, 3, -2), row(0, 0, 1, 2)}
	checkTable(t, want, "states 4", "hood line", "symmetry permute", "var zoo 0 3", "var A 1 2 3", "var a1 2", "var b 0 3",
		"b zoo a1 -> zoo", "a1 a1 a1 -> a1", "zoo 3 A -> 3", "0 1 2 -> 0")
}

// P11.3: faults of the first line.
func TestParseStates(t *testing.T) {
	for n := range 12 {
		if text := []string{"states " + strconv.Itoa(n), "hood line", "symmetry none"}; n >= 2 && n <= 8 {
			checkTable(t, api.Table{States: n, Hood: drawn(named["line"])}, text...)
		} else {
			checkFault(t, api.ErrRange, 1, text...)
		}
	}
	for _, n := range []string{"10", "16", "100", "258", "65538", "4294967", "999999999", "100000002"} {
		checkFault(t, api.ErrRange, 1, "states "+n)
	}
	for _, s := range []string{
		"states", "states two", "states 2 3", "states 3 3 3", "state 2", "States 2", "STATES 2", "states2", "2", "2 states",
		"statess 2", "hood line", "symmetry none", "var a 0 1", "0 0 0 -> 0", "states 02", "states +2", "states -2", "states 2.", "states 0x2",
		"states 2_0", "states 1000000000", "states 1000000002", "states 4294967298", "states 18446744073709551618", "states a", "states ->",
		"x", "->", "states 99999999999999999999", "states 00", "states -0", "states 2,", "states: 2", "states=2", "states 1 1", "states 9 9",
	} {
		checkFault(t, api.ErrSyntax, 1, s)
		checkFault(t, api.ErrSyntax, 1, s, "hood line", "symmetry none")
		checkFault(t, api.ErrSyntax, 2, "", s)
	}
}

// P11.3: faults of the second line.
func TestParseHood(t *testing.T) {
	for _, word := range hoodWords {
		checkTable(t, api.Table{States: 5, Hood: drawn(named[word])}, "states 5", "hood "+word, "symmetry none")
	}
	for _, s := range []string{
		"hood", "hood moore moore", "hood line 1", "hood line none", "Hood line", "HOOD line", "line", "line hood", "hoodline", "hoods line",
		"states 2", "symmetry none", "var a 0", "0 0 0 -> 0", "x", "2", "x x x", "hood x x", "hood: line", "moore", "neumann",
	} {
		checkFault(t, api.ErrSyntax, 2, "states 3", s)
		checkFault(t, api.ErrSyntax, 2, "states 3", s, "symmetry none")
		checkFault(t, api.ErrSyntax, 4, "", "states 3", "#", s)
	}
	for _, s := range []string{
		"Line", "LINE", "lines", "lin", "round", "none", "hood", "moore1", "Moore", "Moore(1)", "mo\u200bore", "neuman", "vonneumann", "hexagon",
		"he", "0", "1", "var", "->", "rotate", "line,", "\"line\"", "line\r",
	} {
		checkFault(t, api.ErrName, 2, "states 3", "hood "+s)
		checkFault(t, api.ErrName, 2, "states 3", "hood "+s, "symmetry none")
	}
}

// P11.3: faults of the third line, and the kinds of symmetries that neighbourhoods permit.
func TestParseSymmetry(t *testing.T) {
	permit := map[string][]string{"moore": symWords, "neumann": symWords, "hex": {"none", "permute"}, "line": {"none", "permute"}}
	for hood, syms := range permit {
		for sym, word := range symWords {
			text := []string{"states 8", "hood " + hood, "symmetry " + word}
			if slices.Contains(syms, word) {
				checkTable(t, api.Table{States: 8, Sym: sym, Hood: drawn(named[hood])}, text...)
			} else {
				checkFault(t, api.ErrArg, 3, text...)
			}
		}
		for _, s := range []string{
			"symmetry", "symmetry none none", "symmetry rotate none", "Symmetry none", "SYMMETRY none", "none", "none symmetry", "symmetrynone",
			"states 3", "hood line", "var a 0 1", "0 0 0 -> 0", "x", "x x", "1", "symmetries none", "symmetry rotate rotate", "symmetry: none",
		} {
			checkFault(t, api.ErrSyntax, 3, "states 3", "hood "+hood, s)
			checkFault(t, api.ErrSyntax, 6, "#", "states 3", "\t", "hood "+hood, "", s, "var a 0")
		}
		for _, s := range []string{
			"None", "NONE", "no", "nones", "rotate4", "rotate8", "Rotate", "rotated", "reflection", "permutation", "Permute", "0", "1", "3", "line",
			"moore", "symmetry", "var", "->", "none\r", "rotate,reflect",
		} {
			checkFault(t, api.ErrName, 3, "states 3", "hood "+hood, "symmetry "+s)
			checkFault(t, api.ErrName, 3, "states 3", "hood "+hood, "symmetry "+s, "var")
		}
	}
}

// P11.3: faults of the line of a variable.
func TestParseVariableFaults(t *testing.T) {
	for e, list := range map[api.Errno][]string{
		api.ErrSyntax: {
			"var", "var a", "var 0", "var var", "var 0 1", "var a b", "var a 0 b", "var a b 0", "var a 0 1 x", "var a a", "var var 0", "var 1 0",
			"var 1a 0", "var a_b 0", "var a-b 0", "var a. 0", "var -> 0", "var a -> 0", "var a 0 -> 0", "var -1 0", "var a -1", "var a +1",
			"var a 01", "var a 00", "var a 0 02", "var a -0", "var a 1000000000", "var a 0 99999999999999999999", "var a 0x1", "var a 1.0",
			"var a 0,1", "var a, 0", "var " + strings.Repeat("a", 21) + " 0", "var a{0} 1", "var a= 0 1", "var a = 0 1", "var \u00e4 0",
			"var a\u00e4 0", "var a \u0661", "var a \u00b2", "var \xff 0", "var a\x00 0", "var a 0\r", "var a\r 0", "var [ 0", "var ` 0", "var @ 0",
			"var { 0", "var a/ 0", "var a: 0", "var a[ 0", "var a` 0", "var a@ 0", "var a{ 0",
		},
		api.ErrTwice: {"var v 0", "var v 0 1", "var v 2", "var w 1 2", "var w 0 1 2"},
		api.ErrRange: {"var a 3", "var a 0 3", "var a 3 4", "var a 0 1 2 3", "var a 9", "var a 256", "var a 999999999", "var a 0 1 2 4", "var a 257"},
		api.ErrOrder: {"var a 1 0", "var a 0 0", "var a 2 1 0", "var a 0 2 1", "var a 1 1", "var a 0 1 1", "var a 0 0 1", "var a 2 0", "var a 0 1 0"},
	} {
		for _, s := range list {
			before := with(head, "var v 0 1", "var w 2")
			checkFault(t, e, 6, with(before, s)...)
			checkFault(t, e, 6, with(before, s, "var z 0 1", "0 0 0 -> 0")...)
			checkFault(t, e, 8, with(before, "", " # var a 0", s)...)
		}
	}
}

// P11.3: a row ends the variables.
func TestParseVariableBehindRow(t *testing.T) {
	for _, s := range []string{"var a 0", "var a 0 1 2", "var v 0", "var", "var a", "var var 0", "var a 1 0", "var a 3", "var a x", "var 0 0 -> 0"} {
		checkFault(t, api.ErrOrder, 6, with(head, "var v 0 1", "v 0 0 -> 1", s)...)
		checkFault(t, api.ErrOrder, 5, with(head, "0 0 0 -> 1", s)...)
		checkFault(t, api.ErrOrder, 8, with(head, "", "0 0 0 -> 1", "0 1 0 -> 1", "#", s)...)
	}
	// A line whose first word only begins like var is a row, and may be the last before a variable.
	checkFault(t, api.ErrSyntax, 4, with(head, "vara 0 1")...)
	checkFault(t, api.ErrSyntax, 4, with(head, "Var a 0 1")...)
	checkFault(t, api.ErrName, 4, with(head, "vars 0 1 -> 1")...)
	checkFault(t, api.ErrName, 4, with(head, "VAR a 0 -> 0")...)
	checkFault(t, api.ErrSyntax, 4, with(head, "0 0 0 - 0", "var a 0")...)
}

// P11.3: faults of a row.
func TestParseRowFaults(t *testing.T) {
	for e, list := range map[api.Errno][]string{
		api.ErrSyntax: {
			"0", "->", "-> 0", "0 0 -> 0", "0 0 0 0 -> 0", "0 0 0 ->", "0 0 0 0", "0 0 0", "0 0 0 -> 0 0", "0 0 -> 0 0", "0 0 0 0 0", "0 0 0 - 0",
			"0 0 0 > 0", "0 0 0 => 0", "0 0 0 ->0", "0 0 0-> 0", "0 0 0->0", "000 -> 0", "0,0,0 -> 0", "0 0 0 -> -> 0", "0 0 0 >- 0", "0 0 0 --> 0",
			"-> 0 0 0 0", "0 -> 0 0 0", "-> -> -> -> ->", "0 0 0 -> ->", "-> 0 0 -> 0", "0 -> 0 -> 0", "0 0 -> -> 0", "0 0 0 = 0", "0 0 0 x 0",
			"00 0 0 -> 0", "0 01 0 -> 0", "0 0 -1 -> 0", "+1 0 0 -> 0", "0 0 0 -> 00", "0 0 0 -> -1", "0 0 0 -> +0", "0 0 0 -> -0", "-1 0 0 -> -1",
			"1000000000 0 0 -> 0", "0 0 0 -> 1000000000", "0 4294967296 0 -> 0", "0 0 18446744073709551616 -> 0", "? 0 0 -> 0", "0 _ 0 -> 0",
			"0 0 v. -> 0", "0 0 0 -> v.", "1v 0 0 -> 0", "0 var 0 -> 0", "0 0 var -> 0", "0 0 0 -> var", "v_ 0 0 -> 0", "v 0 0 -> v\r",
			"0 0 0 -> 0\r", "0 0 0 ->\r 0", "0\r 0 0 -> 0", "\u00e4 0 0 -> 0", "0 0 0 -> \u0661", "0 \xff 0 -> 0", "0 0 0 \u2192 0", "v\x00 0 0 -> 0",
			strings.Repeat("v", 21) + " 0 0 -> 0", "0 0 0 -> " + strings.Repeat("v", 21), "states 3", "hood line", "symmetry none",
			"0 0 0 -> 0 -> 0", "0 0 0 -> 0 0 -> 0", "v", "v v v v v", "v 0 1",
		},
		api.ErrRange: {
			"3 0 0 -> 0", "0 3 0 -> 0", "0 0 3 -> 0", "0 0 0 -> 3", "9 9 9 -> 9", "0 0 999999999 -> 0", "0 0 0 -> 999999999", "256 0 0 -> 0",
			"0 0 0 -> 8", "v 3 v -> v", "v v v -> 3", "257 258 256 -> 1",
		},
		api.ErrName: {
			"a 0 0 -> 0", "0 a 0 -> 0", "0 0 a -> 0", "0 0 0 -> a", "V 0 0 -> 0", "0 0 0 -> V", "v0 0 0 -> 0", "vv 0 0 -> 0", "0 0 0 -> v1",
			"states 0 0 -> 0", "0 hood 0 -> 0", "0 0 symmetry -> 0", "v v v -> W", "none 0 0 -> 0", "0 0 0 -> " + strings.Repeat("v", 20), "x y z -> x",
		},
		api.ErrArg: {"0 0 0 -> v", "w 0 0 -> v", "v 0 0 -> w", "v v v -> w", "w w w -> v", "2 2 2 -> w", "0 v 0 -> w"},
	} {
		for _, s := range list {
			before := with(head, "var v 0 1", "var w 2")
			checkFault(t, e, 6, with(before, s)...)
			checkFault(t, e, 6, with(before, s, "0 0 0 -> 0")...)
			checkFault(t, e, 7, with(before, "v w 0 -> w", s)...)
			checkFault(t, e, 8, with(before, "# v", "v w 0 -> w", s, "var x 0")...)
		}
	}
}

// P11.3: a row has an element for each position of its neighbourhood.
func TestParseRowLengths(t *testing.T) {
	for _, word := range hoodWords {
		n := len(drawn(named[word]))
		for length := range 13 {
			own := append(slices.Repeat([]string{"1"}, length), "->", "0")
			text := []string{"states 2", "hood " + word, "symmetry permute", strings.Join(own, " ")}
			if length != n {
				checkFault(t, api.ErrSyntax, 4, text...)
				continue
			}
			want := api.Table{States: 2, Sym: 3, Hood: drawn(named[word]), Rows: []api.Row{row(0, slices.Repeat([]int{1}, n)...)}}
			checkTable(t, want, text...)
			for place := range n {
				other := slices.Clone(own)
				other[place] = "2"
				checkFault(t, api.ErrRange, 4, with(text[:3], strings.Join(other, " "))...)
				other[place] = "->"
				checkFault(t, api.ErrSyntax, 4, with(text[:3], strings.Join(other, " "))...)
				other[place] = "a"
				checkFault(t, api.ErrName, 4, with(text[:3], strings.Join(other, " "))...)
				checkTable(t, api.Table{
					States: 2, Sym: 3, Hood: want.Hood, Vars: [][]int{{1}}, Rows: []api.Row{row(0, slices.Replace(slices.Clone(want.Rows[0].Ins), place, place+1, -1)...)},
				}, with(text[:3], "var a 1", strings.Join(other, " "))...)
			}
		}
	}
}

// P11.3: two faults in one line: the one that the chapter names first is returned.
func TestParseTwoFaults(t *testing.T) {
	full := with(head, "var v 0 1", "var w 2")
	for i := range api.MaxVars - 2 {
		full = append(full, "var x"+strconv.Itoa(i)+" 0")
	}
	for _, c := range []struct {
		s string
		e api.Errno
	}{
		// A repeated name, and a number that is no state, or does not ascend.
		{"var v 3", api.ErrTwice}, {"var v 1 0", api.ErrTwice}, {"var v 3 0", api.ErrTwice}, {"var v 0", api.ErrTwice}, {"var v 0 0", api.ErrTwice},
		{"var v x", api.ErrSyntax}, {"var v 3 x", api.ErrSyntax}, {"var v", api.ErrSyntax}, {"var v 1 0 01", api.ErrSyntax},
		// A number that is no state, and numbers that do not ascend.
		{"var a 3 0", api.ErrRange}, {"var a 1 0 3", api.ErrRange}, {"var a 3 3", api.ErrRange}, {"var a 0 0 9", api.ErrRange},
		{"var a 3 x", api.ErrSyntax}, {"var a 1 0 x", api.ErrSyntax}, {"var 1 3", api.ErrSyntax}, {"var 1 1 0", api.ErrSyntax}, {"var var 3", api.ErrSyntax},
		{"var a 2 1", api.ErrOrder}, {"var a 0 0", api.ErrOrder},
		// Nothing but too many variables.
		{"var a 0", api.ErrSize},
		// The elements come in order, and then the new state.
		{"3 a ? -> 0", api.ErrRange}, {"a 3 ? -> 0", api.ErrName}, {"? a 3 -> 0", api.ErrSyntax}, {"0 3 a -> 0", api.ErrRange}, {"0 a 3 -> ?", api.ErrName},
		{"0 0 3 -> a", api.ErrRange}, {"0 0 3 -> ?", api.ErrRange}, {"0 0 a -> 3", api.ErrName}, {"0 0 a -> ?", api.ErrName}, {"0 ? 0 -> 3", api.ErrSyntax},
		{"0 0 ? -> a", api.ErrSyntax}, {"3 0 0 -> v", api.ErrRange}, {"a 0 0 -> v", api.ErrName}, {"01 0 0 -> v", api.ErrSyntax}, {"var", api.ErrSyntax},
		// The number of words, and the arrow, come before the elements.
		{"3 a ? 0 -> 0", api.ErrSyntax}, {"3 3 3 - 3", api.ErrSyntax}, {"a a a > a", api.ErrSyntax}, {"3 3 -> 3", api.ErrSyntax}, {"a -> a", api.ErrSyntax},
		{"3 3 3 -> 3 3", api.ErrSyntax}, {"a a a a a a", api.ErrSyntax}, {"0 0 0 v v", api.ErrSyntax},
	} {
		checkFault(t, c.e, len(full)+1, with(full, c.s)...)
	}
	checkFault(t, api.ErrName, 2, "states 3", "hood sphere")
	checkFault(t, api.ErrSyntax, 2, "states 3", "hood sphere 2")
	checkFault(t, api.ErrSyntax, 2, "states 3", "hoods sphere")
	checkFault(t, api.ErrSyntax, 3, "states 3", "hood line", "symmetry rotate 4")
	checkFault(t, api.ErrSyntax, 3, "states 3", "hood line", "sym rotate")
	checkFault(t, api.ErrSyntax, 1, "stages 9")
	checkFault(t, api.ErrSyntax, 1, "states 9 9")
}

// P11.3: rows with a fault, where there are MaxRows rows already, and variables where there are rows and MaxVars variables.
func TestParseTwoFaultsAtLimits(t *testing.T) {
	full := with(head, "var v 0 1", "var w 2")
	for range api.MaxRows {
		full = append(full, "0 v 0 -> v")
	}
	for _, c := range []struct {
		s string
		e api.Errno
	}{
		{"0 0 0 -> 0", api.ErrSize}, {"v v v -> v", api.ErrSize}, {"0 0 0 -> v", api.ErrArg}, {"0 0 0 -> a", api.ErrName}, {"0 0 0 -> 3", api.ErrRange},
		{"0 0 0 -> ?", api.ErrSyntax}, {"0 0 -> 0", api.ErrSyntax}, {"a 0 0 -> 0", api.ErrName}, {"3 0 0 -> 0", api.ErrRange},
		{"var a 0", api.ErrOrder}, {"var", api.ErrOrder}, {"w 0 0 -> v", api.ErrArg},
	} {
		checkFault(t, c.e, len(full)+1, with(full, c.s)...)
		checkFault(t, c.e, len(full)+2, with(full, "# full", c.s, "0 0 0 -> 0")...)
	}
	many := slices.Clone(head)
	for i := range api.MaxVars {
		many = append(many, "var x"+strconv.Itoa(i)+" 0")
	}
	many = append(many, "0 0 0 -> 0")
	checkFault(t, api.ErrOrder, len(many)+1, with(many, "var a 0")...)
	checkFault(t, api.ErrOrder, len(many)+1, with(many, "var x0 0")...)
	checkFault(t, api.ErrOrder, len(many)+1, with(many, "var x0 3")...)
}

// faults are lines with a fault, by the place of the line that they stand for.
var faults = [][]struct {
	s string
	e api.Errno
}{
	{{"states", api.ErrSyntax}, {"states 1", api.ErrRange}, {"states 9", api.ErrRange}},
	{{"hood", api.ErrSyntax}, {"hood x", api.ErrName}},
	{{"symmetry", api.ErrSyntax}, {"symmetry x", api.ErrName}, {"symmetry reflect", api.ErrArg}},
	{
		{"var a", api.ErrSyntax}, {"var a 3", api.ErrRange}, {"var a 1 0", api.ErrOrder}, {"var v 0", api.ErrTwice}, {"0 0 -> 0", api.ErrSyntax},
		{"3 0 0 -> 0", api.ErrRange}, {"a 0 0 -> 0", api.ErrName}, {"0 0 0 -> v", api.ErrArg},
	},
}

// placed returns lines in which another one replaces one of the first three, or follows a later one.
func placed(text []string, place int, s string) []string {
	if place < len(head) {
		return slices.Replace(slices.Clone(text), place, place+1, s)
	}
	return slices.Insert(slices.Clone(text), place+1, s)
}

// P11.3: two faults in two lines: the first line counts.
func TestParseFaultsInTwoLines(t *testing.T) {
	valid := with(head, "var v 0 1", "1 v 0 -> v", "2 v 0 -> 1")
	for place, list := range faults {
		line := place + 1
		if place == len(head) {
			line++
		}
		for later := place + 1; later < len(valid); later++ {
			for _, first := range list {
				for _, second := range faults[min(later, len(head))] {
					checkFault(t, first.e, line, placed(placed(valid, later, second.s), place, first.s)...)
				}
			}
		}
	}
}

// P11.3: texts that end before the first three lines are complete.
func TestParseShort(t *testing.T) {
	for _, between := range [][]string{nil, {""}, {"", ""}, {" \t"}, {"# states 2"}, {"\t#", "", "  # x"}} {
		var text []string
		for i, line := range head {
			text = append(text, between...)
			checkFault(t, api.ErrShort, 0, text...)
			text = append(text, line)
			if i < 2 {
				checkFault(t, api.ErrShort, 0, text...)
			}
		}
		checkTable(t, api.Table{States: 3, Hood: drawn(named["line"])}, text...)
		checkTable(t, api.Table{States: 3, Hood: drawn(named["line"])}, append(text, between...)...)
	}
	for _, s := range []string{"", "\n", "\n\n\n", " ", "\t", " \n\t", "#", "# states 2\n# hood line\n# symmetry none\n", "#\n#\n#"} {
		checkFault(t, api.ErrShort, 0, s)
	}
}

// P11.3: empty lines, blanks and comments between the lines, and within them.
func TestParseBlanks(t *testing.T) {
	valid := with(head, "var v 0 1", "var w 1 2", "1 v 0 -> v", "w v 0 -> 1")
	want, _, _ := parseModel(lines(valid...))
	for place := range len(valid) + 1 {
		for _, s := range []string{"", " ", "\t", " \t \t ", "#", "# x", "  # var", "\t#0 0 0 -> 0", "##", "#\t#", "# \xff\u00e4", "#\r", " #-> "} {
			text := slices.Insert(slices.Clone(valid), place, s)
			checkTable(t, want, text...)
			checkTable(t, want, slices.Insert(text, place, s, "", s)...)
			checkFault(t, api.ErrSyntax, len(text)+1, with(text, "x")...)
		}
	}
	for place := range valid {
		words := strings.Split(valid[place], " ")
		for _, c := range [][3]string{{" ", " ", " "}, {"\t", "\t", "\t"}, {"", "\t", " "}, {" \t", "  ", ""}, {"", " ", "#"}, {"", " ", " # x"}, {"", " ", "# 1 -> #"}, {"  ", " \t \t ", "\t#"}} {
			text := slices.Clone(valid)
			text[place] = c[0] + strings.Join(words, c[1]) + c[2]
			checkTable(t, want, text...)
		}
		// A comment that begins within a line leaves out the rest of it.
		for end := range len(valid[place]) {
			text := slices.Clone(valid)
			text[place] = text[place][:end] + "#" + text[place][end:]
			checkParse(t, lines(text...))
		}
	}
}

// P11.3: only the bytes 32 and 9 are blanks, and only a line feed ends a line.
func TestParseBytes(t *testing.T) {
	text := lines("states 3", "hood line", "symmetry none", "var v1 0 1", "1 v1 0 -> v1")
	for place := range len(text) + 1 {
		for c := range 256 {
			b := string([]byte{byte(c)})
			checkParse(t, text[:place]+b+text[place:])
			if place < len(text) {
				checkParse(t, text[:place]+b+text[place+1:])
			}
		}
		for _, s := range []string{"\u00a0", "\u2028", "\u0085", "\u3000", "\ufeff", "\u00e4", "\u0661", "\U0001f600", "\xc3", "\xe2\x82", "\xff\xfe", "\r\n", "\n\r", "\v", "\f"} {
			checkParse(t, text[:place]+s+text[place:])
		}
		checkParse(t, text[:place])
		checkParse(t, text[place:])
	}
	for i, line := range strings.Split(strings.TrimSuffix(text, "\n"), "\n") {
		all := strings.Split(strings.TrimSuffix(text, "\n"), "\n")
		want := api.ErrSyntax
		if i == 1 || i == 2 {
			want = api.ErrName
		}
		for _, s := range []string{"\r", "\v", "\f", "\x00", "\u00a0", "\xa0", "\x85", "\xff"} {
			all[i] = line + s
			checkFault(t, want, i+1, all...)
			all[i] = s + line
			checkFault(t, api.ErrSyntax, i+1, all...)
			all[i] = strings.Replace(line, " ", s, 1)
			checkFault(t, api.ErrSyntax, i+1, all...)
		}
		// A line that has only such a byte is not left out.
		checkFault(t, api.ErrSyntax, i+1, slices.Insert(strings.Split(text, "\n"), i, "\r")...)
	}
	checkFault(t, api.ErrSyntax, 1, strings.Join(head, "\r\n"))
	checkFault(t, api.ErrSyntax, 1, strings.Join(head, "\r"))
}

// P11.3: the forms of numbers, in each kind of line.
func TestParseNumbers(t *testing.T) {
	for _, c := range []struct {
		word string
		e    api.Errno
	}{
		{"9", api.ErrRange}, {"10", api.ErrRange}, {"99", api.ErrRange}, {"12345678", api.ErrRange}, {"123456789", api.ErrRange},
		{"999999999", api.ErrRange}, {"100000000", api.ErrRange}, {"1000000000", api.ErrSyntax}, {"9999999999", api.ErrSyntax},
		{"1234567890", api.ErrSyntax}, {"4294967297", api.ErrSyntax}, {"0000000001", api.ErrSyntax}, {"000000001", api.ErrSyntax}, {"01", api.ErrSyntax},
		{"00", api.ErrSyntax}, {"001", api.ErrSyntax}, {"08", api.ErrSyntax}, {"+1", api.ErrSyntax}, {"-1", api.ErrSyntax}, {"-0", api.ErrSyntax},
		{"+0", api.ErrSyntax}, {"--1", api.ErrSyntax}, {"1-", api.ErrSyntax}, {"1+", api.ErrSyntax}, {"1_0", api.ErrSyntax}, {"0x1", api.ErrSyntax},
		{"1e0", api.ErrSyntax}, {"1.", api.ErrSyntax}, {"1a", api.ErrSyntax}, {"18446744073709551617", api.ErrSyntax}, {"-18446744073709551615", api.ErrSyntax},
		{"9223372036854775808", api.ErrSyntax}, {"\u0661", api.ErrSyntax}, {"1\u0661", api.ErrSyntax}, {"\uff11", api.ErrSyntax},
	} {
		checkFault(t, c.e, 1, "states "+c.word, "hood line", "symmetry none")
		eight := []string{"states 8", "hood line", "symmetry none"}
		checkFault(t, c.e, 4, with(eight, "var a "+c.word)...)
		checkFault(t, c.e, 4, with(eight, "var a 0 "+c.word)...)
		checkFault(t, c.e, 4, with(eight, c.word+" 0 0 -> 0")...)
		checkFault(t, c.e, 4, with(eight, "0 0 "+c.word+" -> 0")...)
		checkFault(t, c.e, 4, with(eight, "0 0 0 -> "+c.word)...)
	}
}

// P11.3: each state of each number of states, and numbers beyond.
func TestParseStatesOfTable(t *testing.T) {
	for states := 2; states <= api.MaxStates; states++ {
		own := []string{"states " + strconv.Itoa(states), "hood line", "symmetry none"}
		for n := range 12 {
			word := strconv.Itoa(n)
			want := api.Table{States: states, Hood: drawn(named["line"]), Vars: [][]int{{n}}, Rows: []api.Row{row(n, n, n, -1)}}
			if n < states {
				checkTable(t, want, with(own, "var a "+word, word+" "+word+" a -> "+word)...)
				continue
			}
			checkFault(t, api.ErrRange, 4, with(own, "var a "+word)...)
			checkFault(t, api.ErrRange, 4, with(own, "var a 0 "+word)...)
			checkFault(t, api.ErrRange, 4, with(own, "0 "+word+" 0 -> 0")...)
			checkFault(t, api.ErrRange, 4, with(own, "0 0 0 -> "+word)...)
		}
	}
}

// P11.3: names that are names, and words that are not.
func TestParseNames(t *testing.T) {
	names := []string{
		"a", "z", "A", "Z", "m", "M", "v", "v0", "v1", "a0", "Z9", "a00", "states", "hood", "symmetry", "none", "line", "moore", "rotate", "Var", "VAR",
		"vaR", "vars", "va", "var0", "avar", "e1", "x0x", "Inf", "NaN", "true", strings.Repeat("a", 19), strings.Repeat("a", 20), "a" + strings.Repeat("9", 19),
		strings.Repeat("Z", 20), "ABCDEFGHIJKLMNOPQRST", "UVWXYZabcdefghijklmn", "opqrstuvwxyz01234567", "a89",
	}
	want := api.Table{States: 3, Hood: drawn(named["line"])}
	text := slices.Clone(head)
	for i, name := range names {
		single := api.Table{States: 3, Hood: want.Hood, Vars: [][]int{{i % 3}}, Rows: []api.Row{row(-1, -1, 0, -1)}}
		states := strconv.Itoa(i % 3)
		checkTable(t, single, with(head, "var "+name+" "+states, name+" 0 "+name+" -> "+name)...)
		checkFault(t, api.ErrTwice, 5, with(head, "var "+name+" "+states, "var "+name+" 0")...)
		checkFault(t, api.ErrName, 4, with(head, name+" 0 0 -> "+name)...)
		want.Vars = append(want.Vars, []int{i % 3})
		text = append(text, "var "+name+" "+states)
	}
	for i, name := range names {
		want.Rows = append(want.Rows, row(-1-i, 0, 1, -1-i))
		text = append(text, "0 1 "+name+" -> "+name)
	}
	checkTable(t, want, text...)
	for _, name := range []string{
		"var", "0a", "00", "1a", "9Z", "a_", "_", "_a", "a-b", "-", "a.b", ".", "a,", "a:", "/", "a/b", "(a)", "a'", "$a", "%", "&", "*", "\u00e4", "a\u00e4",
		"\u03b1", "a\xff", "\xff", strings.Repeat("a", 21), strings.Repeat("a", 22), strings.Repeat("a", 1000), "a" + strings.Repeat("9", 20), "[", "a[",
		"`", "a`", "@", "a@", "{", "a{", "\u00c0", "\u212a", "a\u212a", "\u017f",
	} {
		checkFault(t, api.ErrSyntax, 4, with(head, "var "+name+" 0")...)
		checkFault(t, api.ErrSyntax, 4, with(head, "0 "+name+" 0 -> 0")...)
		checkFault(t, api.ErrSyntax, 4, with(head, "0 0 0 -> "+name)...)
	}
}

// P11.3: names that differ only in their case, or in their end, are different.
func TestParseSimilarNames(t *testing.T) {
	long := strings.Repeat("a", 19)
	want := api.Table{States: 3, Hood: drawn(named["line"]), Vars: [][]int{{0}, {1}, {2}, {0, 1}, {0, 2}, {1, 2}}}
	want.Rows = []api.Row{row(-2, -1, -2, -3), row(-6, -4, -5, -6)}
	checkTable(t, want, with(head, "var ab 0", "var aB 1", "var Ab 2", "var "+long+" 0 1", "var "+long+"b 0 2", "var "+long+"B 1 2",
		"ab aB Ab -> aB", long+" "+long+"b "+long+"B -> "+long+"B")...)
	checkFault(t, api.ErrName, 5, with(head, "var ab 0", "AB 0 0 -> 0")...)
	checkFault(t, api.ErrName, 5, with(head, "var ab 0", "ab 0 0 -> aB")...)
}

// P11.3: as many variables and rows as there may be, and one more.
func TestParseLimits(t *testing.T) {
	for _, vars := range []int{0, 1, api.MaxVars - 1, api.MaxVars, api.MaxVars + 1, 100} {
		for _, rows := range []int{0, 1, api.MaxRows - 1, api.MaxRows, api.MaxRows + 1, 1000} {
			want := api.Table{States: 3, Hood: drawn(named["line"])}
			text := slices.Clone(head)
			for v := range vars {
				want.Vars = append(want.Vars, []int{v % 2, 2})
				text = append(text, "var x"+strconv.Itoa(v)+" "+strconv.Itoa(v%2)+" 2")
			}
			for i := range rows {
				want.Rows = append(want.Rows, row(i%3, 0, 1, i%2))
				text = append(text, "0 1 "+strconv.Itoa(i%2)+" -> "+strconv.Itoa(i%3))
			}
			switch {
			case vars > api.MaxVars:
				checkFault(t, api.ErrSize, 4+api.MaxVars, text...)
			case rows > api.MaxRows:
				checkFault(t, api.ErrSize, 4+vars+api.MaxRows, text...)
			default:
				checkTable(t, want, text...)
			}
		}
	}
}

// P11.3: texts of MaxBytes bytes, and of a byte more, whatever they contain.
func TestParseSize(t *testing.T) {
	valid := lines(with(head, "var a 0 1", "a 0 0 -> a")...)
	want, _, _ := parseModel(valid)
	for _, filler := range []string{" ", "\n", "#", "x"} {
		for _, n := range []int{api.MaxBytes - 1, api.MaxBytes, api.MaxBytes + 1, 2 * api.MaxBytes, 1 << 20} {
			fill := strings.Repeat(filler, n-len(valid)-1)
			for _, s := range []string{valid + "#" + fill, "#" + fill + valid, valid + "\n" + fill, "\n" + fill + valid} {
				checkParse(t, s)
				got, line, e := ruletable.Parse(s)
				if n > api.MaxBytes && (!isZero(got) || line != 0 || e != api.ErrSize) {
					t.Errorf("Parse of %d bytes is %s, %d and %d", n, show(got), line, e)
				}
				if n <= api.MaxBytes && s[0] == 's' && s[len(valid)] == '#' && (!sameModel(got, want) || line != 0 || e != api.OK) {
					t.Errorf("Parse of %d bytes is %s, %d and %d", n, show(got), line, e)
				}
			}
		}
	}
	checkParse(t, strings.Repeat("states 9\n", 1<<13))
	checkFault(t, api.ErrSyntax, 1, strings.Repeat("x", api.MaxBytes-1))
	checkFault(t, api.ErrSyntax, 1, strings.Repeat("x ", api.MaxBytes/2-1))
	checkFault(t, api.ErrSyntax, 4, with(head, strings.Repeat("0 ", 30000)+"-> 0")...)
	checkFault(t, api.ErrSyntax, 4, with(head, "var "+strings.Repeat("a", 60000)+" 0")...)
	checkFault(t, api.ErrOrder, 4, with(head, "var a "+strings.Repeat("0 ", 30000))...)
	checkFault(t, api.ErrSyntax, 4, with(head, "var a "+strings.Repeat("0", 60000))...)
	checkFault(t, api.ErrSyntax, 65001, strings.Repeat("\n", 65000)+"x")
	for _, s := range []string{strings.Repeat("x", api.MaxBytes+1), strings.Repeat("\n", api.MaxBytes+1), "states 9\n" + strings.Repeat("#", api.MaxBytes)} {
		checkFault(t, api.ErrSize, 0, s)
	}
}

// edited returns lines of which a word, or a line, is another one, is missing, or stands twice.
func edited(rng *rand.Rand, text []string) []string {
	words := []string{
		"0", "1", "2", "3", "9", "01", "-1", "a", "b", "v0", "v1", "v2", "v3", "->", "var", "states", "hood", "symmetry", "moore", "neumann", "hex", "line", "none",
		"rotate", "reflect", "permute", "#", "", "\t", "\r", "a1", "A", "1000000000", "999999999", "x_", "\xff",
	}
	text = slices.Clone(text)
	i := rng.Intn(len(text))
	own := strings.Split(text[i], " ")
	j := rng.Intn(len(own))
	word := words[rng.Intn(len(words))]
	switch rng.Intn(8) {
	case 0:
		own = slices.Delete(own, j, j+1)
	case 1:
		own = slices.Insert(own, j, word)
	case 2, 3, 4:
		own[j] = word
	case 5:
		k := rng.Intn(len(text))
		text[i], text[k] = text[k], text[i]
		return text
	case 6:
		return slices.Insert(text, rng.Intn(len(text)+1), text[i])
	case 7:
		if len(text) > 1 {
			return slices.Delete(text, i, i+1)
		}
	}
	text[i] = strings.Join(own, " ")
	return text
}

// P11.3: random texts, and others that differ from them in one place or in some.
func TestParseRandom(t *testing.T) {
	rng := rand.New(rand.NewSource(117))
	found := map[api.Errno]int{}
	for range 400 {
		for _, word := range hoodWords {
			own := randomTable(rng, named[word], []int{0, 3}[rng.Intn(2)], 2+rng.Intn(7), rng.Intn(4), rng.Intn(4))
			text := strings.Split(strings.TrimSuffix(textModel(own), "\n"), "\n")
			checkTable(t, own, text...)
			for range 8 {
				text = edited(rng, text)
				_, _, e := parseModel(lines(text...))
				found[e]++
				checkParse(t, lines(text...))
			}
		}
	}
	for _, e := range []api.Errno{api.OK, api.ErrSyntax, api.ErrRange, api.ErrName, api.ErrArg, api.ErrOrder, api.ErrTwice} {
		if found[e] == 0 {
			t.Errorf("no text has the error %d", e)
		}
	}
}

// P11.3: no two lists of a table share memory, also behind their ends, and neither do two tables.
func TestParseNewMemory(t *testing.T) {
	for _, word := range hoodWords {
		rng := rand.New(rand.NewSource(118))
		want := randomTable(rng, named[word], api.SymPermute, 5, 7, 9)
		s := textModel(want)
		other, _, _ := ruletable.Parse(s)
		for i := range 1 + len(want.Vars) + len(want.Rows) {
			got, line, e := ruletable.Parse(s)
			if line != 0 || e != api.OK {
				t.Fatalf("Parse(%q) has the error %d in line %d", begin(s), e, line)
			}
			same := laidOut(want)
			spoil(&got, i)
			spoil(&same, i)
			if !sameModel(got, same) {
				t.Errorf("a change of one list of Parse(%q) changes others: %s", begin(s), show(got))
			}
			if !sameModel(other, want) {
				t.Fatalf("a change of one result of Parse(%q) changes another: %s", begin(s), show(other))
			}
		}
	}
}

// spoil writes to all of a list of a table, and behind its end as far as its memory goes.
func spoil(t *api.Table, i int) {
	switch vars := len(t.Vars); {
	case i == 0:
		whole := t.Hood[:cap(t.Hood)]
		for k := range whole {
			whole[k] = api.Point{X: 9, Y: 9}
		}
	case i <= vars:
		spoilList(t.Vars[i-1])
	default:
		spoilList(t.Rows[i-1-vars].Ins)
	}
}

// spoilList writes to a list, and behind its end.
func spoilList(l []int) {
	l = l[:cap(l)]
	for k := range l {
		l[k] = 99
	}
}
