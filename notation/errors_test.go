package notation_test

import (
	"slices"
	"strconv"
	"strings"
	"testing"

	"cellular/api"
	"cellular/notation"
)

// fault is a text with its kind and the error that it leads to.
type fault struct {
	s    string
	kind int
	e    api.Errno
}

// checkFaults checks texts with errors.
func checkFaults(t *testing.T, list []fault) {
	t.Helper()
	for _, c := range list {
		checkError(t, c.s, c.kind, c.e)
	}
}

// padded returns a text with a comment behind it that makes it as long as a number of bytes.
func padded(s string, n int) string {
	return s + strings.Repeat("#", n-len(s))
}

// repeated returns the text of a table with a line for each of a number of variables or rows, behind some other lines.
func repeated(n int, line func(i int) string, before ...string) string {
	for i := range n {
		before = append(before, line(i))
	}
	return lines(before...)
}

// variable returns the line of a variable with the name x and a number.
func variable(i int) string {
	return "var x" + strconv.Itoa(i) + " 0 1"
}

// P16.2, P16.3: texts without a form, and each error of the calls that read a rule by counts or of rows.
func TestErrors(t *testing.T) {
	checkFaults(t, []fault{
		{"", 0, api.ErrName},
		{"life", 0, api.ErrName},
		{"b3/s23", 0, api.ErrName},
		{"states 2", 0, api.ErrName},
		{"W030", 0, api.ErrName},
		{"B32/S", 0, api.ErrName},
		// Numbers that a rule by counts may not have.
		{"B9/S", 1, api.ErrRange},
		{"B/S9", 1, api.ErrRange},
		{"B5/SV", 1, api.ErrRange},
		{"B/S7H", 1, api.ErrRange},
		{"B2/S/C2", 2, api.ErrRange},
		{"B2/S/C9", 2, api.ErrRange},
		{"/2/999", 2, api.ErrRange},
		{"B9/S/C3", 2, api.ErrRange},
		{"5/2/3V", 2, api.ErrRange},
		{"B2/S7/C3H", 2, api.ErrRange},
		// Rules of rows that do not exist.
		{"W256", 3, api.ErrRange},
		{"T16/2", 4, api.ErrRange},
		{"T6/1", 4, api.ErrRange},
		{"T6/9", 4, api.ErrRange},
	})
}

// P16.2, P16.3: each error of the call that reads a table. Those that concern the tree alone are in TestTreeErrors.
func TestTableErrors(t *testing.T) {
	head := []string{"states 3", "hood line", "symmetry none"}
	with := func(more ...string) string { return lines(slices.Concat(head, more)...) }
	checkFaults(t, []fault{
		{padded("\n", api.MaxBytes+1), 5, api.ErrSize},
		{"state 2\n", 5, api.ErrSyntax},
		{"states 1\n", 5, api.ErrRange},
		{"states 9\n", 5, api.ErrRange},
		{lines("states 2", "hood"), 5, api.ErrSyntax},
		{lines("states 2", "hood square"), 5, api.ErrName},
		{lines("states 2", "hood line", "sym none"), 5, api.ErrSyntax},
		{lines("states 2", "hood line", "symmetry mirror"), 5, api.ErrName},
		{lines("states 2", "hood hex", "symmetry rotate"), 5, api.ErrArg},
		{lines("states 2", "hood line", "symmetry reflect"), 5, api.ErrArg},
		{with("0 0 0 -> 1", "var a 0"), 5, api.ErrOrder},
		{with("var a"), 5, api.ErrSyntax},
		{with("var a 0", "var a 1"), 5, api.ErrTwice},
		{with("var a 3"), 5, api.ErrRange},
		{with("var a 1 0"), 5, api.ErrOrder},
		{repeated(api.MaxVars+1, variable, head...), 5, api.ErrSize},
		{with("0 0 -> 1"), 5, api.ErrSyntax},
		{with("0 0 0 -> -1"), 5, api.ErrSyntax},
		{with("0 3 0 -> 1"), 5, api.ErrRange},
		{with("0 0 0 -> 3"), 5, api.ErrRange},
		{with("0 a 0 -> 1"), 5, api.ErrName},
		{with("var a 0", "0 1 0 -> a"), 5, api.ErrArg},
		{repeated(api.MaxRows+1, func(int) string { return "0 1 0 -> 0" }, head...), 5, api.ErrSize},
		{"\n", 5, api.ErrShort},
		{lines("states 2"), 5, api.ErrShort},
		{lines("states 2", "hood line"), 5, api.ErrShort},
	})
}

// P16.2, P16.3: texts with several faults. The kind counts first, then the calls in their order.
func TestSeveralFaults(t *testing.T) {
	checkFaults(t, []fault{
		// Wrong in form, and a number that is too great.
		{"b9/s", 0, api.ErrName},
		{"B9/S9W", 0, api.ErrName},
		{"B9/S/C09", 0, api.ErrName},
		{"9/9/1000", 0, api.ErrName},
		{"W0256", 0, api.ErrName},
		{"T16/09", 0, api.ErrName},
		{"states 9", 0, api.ErrName},
		{padded("", api.MaxBytes+1), 0, api.ErrName},
		// Both numbers are wrong, or the whole text is long.
		{"B9/S9V", 1, api.ErrRange},
		{"B9/S9/C2", 2, api.ErrRange},
		{"9/9/999H", 2, api.ErrRange},
		{"W" + strings.Repeat("9", api.MaxBytes), 3, api.ErrRange},
		{"T16/9", 4, api.ErrRange},
		{"T" + strings.Repeat("9", api.MaxBytes) + "/1", 4, api.ErrRange},
		// A line feed makes a table of texts with faults of their own.
		{"B9/S\n", 5, api.ErrSyntax},
		{"W256\n", 5, api.ErrSyntax},
		{"T16/9\n", 5, api.ErrSyntax},
		{"B2/S/C9\n", 5, api.ErrSyntax},
		// The number of bytes, and wrong lines.
		{padded("states 9\n", api.MaxBytes+1), 5, api.ErrSize},
		{padded("B3/S23\n", api.MaxBytes+1), 5, api.ErrSize},
		{padded("B3/S23\n", api.MaxBytes), 5, api.ErrSyntax},
		{padded("\n", api.MaxBytes), 5, api.ErrShort},
		// Two faults in one line, and in two lines.
		{lines("states 9 9"), 5, api.ErrSyntax},
		{lines("states 9", "hood square"), 5, api.ErrRange},
		{lines("states 2", "hood square", "symmetry mirror"), 5, api.ErrName},
		{lines("states 2", "hood line", "symmetry rotate", "var a 2 1"), 5, api.ErrArg},
		{lines("states 2", "hood line", "symmetry none", "0 2 a -> 0"), 5, api.ErrRange},
		{lines("states 2", "hood line", "symmetry none", "0 a 2 -> 0"), 5, api.ErrName},
		{lines("states 2", "hood line", "symmetry none", "0 a 0 -> 2 2"), 5, api.ErrSyntax},
		{lines("states 2", "hood line", "symmetry none", "var a 1 2 0", "var a 0 1"), 5, api.ErrRange},
		// The tree would have an error of its own.
		{lines("states 8", "hood moore", "symmetry none", "var a 8"), 5, api.ErrRange},
		{lines("states 8", "hood moore", "symmetry mirror"), 5, api.ErrName},
		{lines("states 8", "hood moore"), 5, api.ErrShort},
		{lines("states 8", "hood moore", "symmetry none", "0 0 0 -> 1"), 5, api.ErrSyntax},
		{manyNodes("a", "b", "c", "d") + "a b c d 5 -> 8\n", 5, api.ErrRange},
		{manyNodes("a", "b", "c", "d") + "var e 0\n", 5, api.ErrOrder},
	})
}

// manyNodes returns the text of a table whose tree has too many nodes, with names for its four variables: the new states for those of the
// last position tell the states of all others.
func manyNodes(a, b, c, d string) string {
	const states = " 0 1 2 3 4 5 6 7"
	four := strings.Join([]string{a, b, c, d}, " ")
	return lines("states 8", "hood neumann", "symmetry none", "var "+a+states, "var "+b+states, "var "+c+states, "var "+d+states,
		four+" 0 -> "+a, four+" 1 -> "+b, four+" 3 -> "+d)
}

// P16.2, P16.3: texts of tables that have no tree, although nothing is wrong with the tables. Errors of trees do not count for Canon.
func TestTreeErrors(t *testing.T) {
	for _, c := range []struct{ s, canon string }{
		// Too many nodes.
		{manyNodes("a", "b", "c", "d"), manyNodes("v0", "v1", "v2", "v3")},
		{manyNodes("v3", "v2", "v1", "v0"), manyNodes("v0", "v1", "v2", "v3")},
		// Tables that are not small.
		{lines("states 4", "hood moore", "symmetry none"), lines("states 4", "hood moore", "symmetry none")},
		{lines("states 8", "hood  moore", "symmetry permute"), lines("states 8", "hood moore", "symmetry permute")},
		{lines("", "states 5", "hood hex", "symmetry none #"), lines("states 5", "hood hex", "symmetry none")},
		{lines("states 8", "hood hex", "symmetry permute", "var q 7", "q q q q q q q -> 0"),
			lines("states 8", "hood hex", "symmetry permute", "var v0 7", "v0 v0 v0 v0 v0 v0 v0 -> 0")},
	} {
		for _, s := range []string{c.s, c.canon} {
			checkReading(t, s, reading{kind: 5, treeError: api.ErrSize, canon: c.canon})
		}
	}
	// The greatest small tables, and one that differs from the first one by a row.
	for _, s := range []string{
		lines("states 3", "hood moore", "symmetry none"), lines("states 4", "hood hex", "symmetry none"),
		lines("states 8", "hood neumann", "symmetry none"), strings.TrimSuffix(manyNodes("a", "b", "c", "d"), "a b c d 3 -> d\n"),
	} {
		if _, e := notation.Parse(s); e != api.OK {
			t.Errorf("Parse(%s) is the error %d", quote(s), e)
		}
	}
}

// P16.2, P16.3: a table with as many bytes as a text may have.
func TestLongestTable(t *testing.T) {
	want := readModel(rowTable)
	checkReading(t, padded(rowTable, api.MaxBytes), want)
	checkReading(t, strings.Repeat("\n", api.MaxBytes-len(rowTable))+rowTable, want)
	checkError(t, padded(rowTable, api.MaxBytes+1), 5, api.ErrSize)
}
