package tabletree_test

import (
	"fmt"
	"math"
	"math/big"
	"slices"
	"strings"
	"testing"

	"cellular/api"
	"cellular/ruletable"
	"cellular/tabletree"
	"cellular/tree"
)

// checkError checks that Tree, Row and Dead return an error and no values.
func checkError(t *testing.T, own api.Table, i int, tree, row, dead api.Errno) {
	t.Helper()
	unchanged(t, own, func(own api.Table) {
		got, e := tabletree.Tree(own)
		checkTree(t, got, e, api.Tree{}, tree, "Tree of ", show(own))
		got, e = tabletree.Row(own, i)
		checkTree(t, got, e, api.Tree{}, row, "Row of ", show(own), i)
		if l, e := tabletree.Dead(own); len(l) > 0 || e != dead {
			t.Errorf("Dead of %s is %v with the error %d", show(own), l, e)
		}
	})
}

// isSmall reports whether the number of lists of n states is at most 65536.
func isSmall(states, n int) bool {
	power := new(big.Int).Exp(big.NewInt(int64(states)), big.NewInt(int64(n)), nil)
	return power.Cmp(big.NewInt(65536)) <= 0
}

// sized are numbers of states, and the greatest numbers of positions for which tables are small.
var sized = [][2]int{{2, 16}, {3, 10}, {4, 8}, {5, 6}, {6, 6}, {7, 5}, {8, 5}}

// P15.1, P15.2: tables of each size, with a centre and without. Those with one position more than the greatest small ones, and those with so
// many that the number of lists of states does not fit into an int, or is 0 if it is computed nevertheless, are not small.
func TestSizes(t *testing.T) {
	t.Parallel()
	whole := drawn(square)
	for _, c := range sized {
		states := c[0]
		for n := 1; n <= 25; n++ {
			if isSmall(states, n) != (n <= c[1]) {
				t.Fatalf("%d states and %d positions", states, n)
			}
			for _, l := range [][]api.Point{whole[:n], whole[12-n/2 : 12-n/2+n]} {
				own := api.Table{States: states, Hood: l, Rows: []api.Row{{Ins: make([]int, n), Out: 1}}}
				if !isSmall(states, n) {
					checkError(t, own, 0, api.ErrSize, api.ErrSize, api.ErrSize)
					checkError(t, own, 1, api.ErrSize, api.ErrArg, api.ErrSize)
					own.Rows = nil
					checkError(t, own, 0, api.ErrSize, api.ErrArg, api.ErrSize)
					continue
				}
				checkSmall(t, own)
			}
		}
	}
}

// checkSmall checks Tree, Row and Dead of a small table whose only row has the state 1 for zeros, and of the table without the row.
func checkSmall(t *testing.T, own api.Table) {
	t.Helper()
	n := len(own.Hood)
	list := make([]int, len(everyState(own.States, n)))
	list[0] = 1
	want := listed(own.States, own.Hood, list)
	got, e := tabletree.Row(own, 0)
	checkTree(t, got, e, want, api.OK, "Row of ", show(own))
	centre := slices.Index(own.Hood, api.Point{})
	if centre >= 0 {
		list = valuesOf(own.States, n, func(in []int) int { return in[centre] })
		list[0] = 1
		want = listed(own.States, own.Hood, list)
	}
	got, e = tabletree.Tree(own)
	checkTree(t, got, e, want, api.OK, "Tree of ", show(own))
	checkDead(t, own)
	own.Rows = nil
	want, _ = tree.Constant(own.States, own.Hood, 0)
	if centre >= 0 {
		want, _ = tree.Read(own.States, own.Hood, centre)
	}
	got, e = tabletree.Tree(own)
	checkTree(t, got, e, want, api.OK, "Tree of ", show(own))
	checkDead(t, own)
}

// P15.1, P15.2: tables that are not small, with symmetries.
func TestSizesOfSymmetries(t *testing.T) {
	t.Parallel()
	for sym := range 3 {
		checkError(t, table(2, sym, square, ""), 0, api.ErrSize, api.ErrArg, api.ErrSize)
		checkError(t, table(8, sym, square, "", strings.Repeat("0", 25)+">1"), 0, api.ErrSize, api.ErrSize, api.ErrSize)
	}
	for sym := range 4 {
		checkError(t, table(4, sym, moore, "", "012301230>1"), 0, api.ErrSize, api.ErrSize, api.ErrSize)
		checkTrees(t, table(4, sym, ring8, "0123", "01a3012a>1"))
	}
}

// Tables with one row, for which the trees have as many nodes as a tree may have, one more, and many more. (The row compares pairs of states
// in all symmetric ways, so that a tree has to remember most of what it reads.)
var (
	fullRow  = table(2, 2, outer, strings.Repeat("01 ", 12), "abcdcefghijibfka>1")
	aboveRow = table(2, 2, outer, strings.Repeat("01 ", 12), "abcddefghijfjkal>1")
	manyRow  = table(2, 2, knight, strings.Repeat("01 ", 12), "abcdedfghbijcakl>1")
)

// P15.1: Tree and Row with MaxTree nodes, and with more.
func TestManyNodes(t *testing.T) {
	t.Parallel()
	for _, c := range []struct {
		own   api.Table
		nodes int
	}{{fullRow, 4096}, {aboveRow, 4097}, {manyRow, 5964}} {
		// There is no centre, so the tree of the table is that of its row.
		all := listed(2, c.own.Hood, valuesOf(2, 16, nextOf(c.own)))
		if len(all.Nodes) != c.nodes {
			t.Fatalf("the tree has %d nodes, not %d", len(all.Nodes), c.nodes)
		}
		want, wanted := limited(all)
		got, e := tabletree.Tree(c.own)
		checkTree(t, got, e, want, wanted, "Tree of ", show(c.own))
		got, e = tabletree.Row(c.own, 0)
		checkTree(t, got, e, want, wanted, "Row of ", show(c.own))
		got, e = tabletree.Row(c.own, 1)
		checkTree(t, got, e, api.Tree{}, api.ErrArg, "Row of ", show(c.own))
	}
}

// P15.1: a row has its tree even if that of the table has too many nodes, and the other way round.
func TestManyNodesOfOthers(t *testing.T) {
	t.Parallel()
	own := manyRow
	own.Rows = append(own.Rows[:1:1], row(strings.Repeat("0", 16)+">1"), row("abcdefghijklabcd>0"))
	got, e := tabletree.Tree(own)
	checkTree(t, got, e, api.Tree{}, api.ErrSize, "Tree of ", show(own))
	got, e = tabletree.Row(own, 1)
	checkTree(t, got, e, listed(2, own.Hood, valuesOf(2, 16, decidesOf(own, 1))), api.OK, "Row of ", show(own))
	own.Vars = slices.Repeat([][]int{{0, 1}}, 16)
	own.Rows = []api.Row{row("abcdefghijklmnop>0"), manyRow.Rows[0]}
	got, e = tabletree.Row(own, 1)
	checkTree(t, got, e, api.Tree{}, api.ErrSize, "Row of ", show(own))
	got, e = tabletree.Tree(own)
	want, _ := tree.Constant(2, own.Hood, 0)
	checkTree(t, got, e, want, api.OK, "Tree of ", show(own))
}

// wrongTables returns tables that are not valid: in each of them one condition is broken.
func wrongTables() []api.Table {
	vars := strings.Repeat("01 ", 40)
	list := []api.Table{
		{},
		// Numbers of states.
		table(1, 0, line, "0", "000>0", "a0a>a"), table(0, 0, line, ""), table(-1, 0, line, ""), table(9, 0, line, "", "012>8"),
		table(math.MaxInt, 0, line, "", "000>0"), table(math.MinInt, 0, line, ""), table(1<<32+2, 0, line, "", "000>0"),
		// Neighbourhoods.
		{States: 2}, {States: 2, Hood: []api.Point{}, Rows: []api.Row{{}}}, {States: 2, Hood: []api.Point{{X: 1}, {}}},
		{States: 2, Hood: []api.Point{{Y: 1}, {}}}, {States: 2, Hood: []api.Point{{}, {}}}, {States: 2, Hood: []api.Point{{}, {X: 3}}},
		{States: 2, Hood: []api.Point{{Y: -3}, {}}}, {States: 2, Hood: []api.Point{{X: math.MinInt}, {}}},
		{States: 2, Hood: append(drawn(square), api.Point{X: 2, Y: 2})}, {States: 2, Hood: append(drawn(square), api.Point{Y: 3})},
		// Symmetries.
		table(2, 1, hex, ""), table(2, 1, line, ""), table(2, 2, hex, ""), table(2, 2, swirl, "", "0000>1"), table(2, 3, "ooooo ooooo ..... ..... .....", ""),
		table(2, 3, square, ""), table(2, -1, line, ""), table(2, 4, line, ""), table(2, 1<<32, line, ""), table(2, math.MinInt, line, ""),
		table(2, math.MaxInt, line, "", "000>1"),
		// Variables.
		table(2, 0, line, vars+"01", "000>1"), {States: 2, Hood: drawn(line), Vars: [][]int{{0}, nil}}, table(2, 0, line, "00"),
		table(2, 0, line, "10", "000>1"), table(2, 0, line, "2"), table(2, 0, line, "012"), table(8, 0, line, "8"),
		{States: 2, Hood: drawn(line), Vars: [][]int{{-1, 0}}}, {States: 2, Hood: drawn(line), Vars: [][]int{{math.MinInt, 1 << 32}}},
		// Numbers of rows, and of their elements.
		{States: 2, Hood: drawn(line), Rows: slices.Repeat([]api.Row{row("010>1")}, 401)}, table(2, 0, line, "", "00>1"),
		table(2, 0, line, "", "000>1", "0000>1"), table(2, 0, line, "", ">1"), table(2, 0, single, "", "00>1", "0>1"),
		// Elements.
		table(2, 0, line, "", "002>1"), table(2, 0, line, "01", "00b>1"), table(2, 0, line, "", "000>1", "a00>1"), table(8, 0, line, "", "800>1"),
		{States: 2, Hood: drawn(pair), Rows: []api.Row{{Ins: []int{0, math.MinInt}}}},
		{States: 2, Hood: drawn(pair), Rows: []api.Row{{Ins: []int{math.MaxInt, 1}}}},
		{States: 2, Hood: drawn(pair), Rows: []api.Row{{Ins: []int{1 << 32, 1}}}},
		// New states.
		table(2, 0, line, "", "000>2"), table(2, 0, line, "01", "000>a"), table(2, 0, line, "01 01", "aaa>b"), table(2, 0, line, "01", "aaa>b"),
		table(2, 0, line, "01", "aaa>a", "00b>b"), {States: 2, Hood: drawn(single), Rows: []api.Row{{Ins: []int{0}, Out: math.MaxInt}}},
		{States: 2, Hood: drawn(single), Rows: []api.Row{{Ins: []int{0}, Out: math.MinInt}}},
		{States: 2, Hood: drawn(single), Rows: []api.Row{{Ins: []int{0}, Out: 1 << 32}}},
	}
	for n := range 3 {
		list = append(list, table(2, n, square, "", strings.Repeat("0", 24)+"2>1"), table(9, n, square, "", strings.Repeat("0", 25)+">1"))
	}
	return list
}

// P15.1, P15.2: tables that are not valid, with any row. That they are not small either does not matter.
func TestWrongTables(t *testing.T) {
	for k, own := range wrongTables() {
		if ruletable.Right(own) {
			t.Errorf("the table %d, %s, is valid", k, show(own))
		}
		for _, i := range append([]int{len(own.Rows), len(own.Rows) - 1}, ints...) {
			checkError(t, own, i, api.ErrArg, api.ErrArg, api.ErrArg)
		}
	}
}

// P15.1: rows that a table has, and others; the table is small, not small, or not valid.
func TestRowIndices(t *testing.T) {
	for _, rows := range []int{0, 1, 2, 3, 9, 256, 400} {
		small := table(2, 0, line, "")
		for i := range rows {
			small.Rows = append(small.Rows, row(fmt.Sprintf("%03b>1", i%8)))
		}
		large, wrong := small, small
		large.Hood = drawn(square)
		large.Rows = slices.Repeat([]api.Row{{Ins: make([]int, 25)}}, rows)
		wrong.Sym = 4
		for _, i := range append([]int{rows - 1, rows, rows + 1, -rows, 1<<32 + rows - 1}, ints...) {
			is := i >= 0 && i < rows
			got, e := tabletree.Row(small, i)
			if is {
				checkTree(t, got, e, listed(2, small.Hood, valuesOf(2, 3, decidesOf(small, i))), api.OK, "Row of ", show(small), i)
				checkError(t, large, i, api.ErrSize, api.ErrSize, api.ErrSize)
			} else {
				checkTree(t, got, e, api.Tree{}, api.ErrArg, "Row of ", show(small), i)
				checkError(t, large, i, api.ErrSize, api.ErrArg, api.ErrSize)
			}
			checkError(t, wrong, i, api.ErrArg, api.ErrArg, api.ErrArg)
		}
	}
}
