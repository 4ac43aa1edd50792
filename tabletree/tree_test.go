package tabletree_test

import (
	"fmt"
	"math/rand"
	"slices"
	"strings"
	"testing"

	"cellular/api"
	"cellular/ruletable"
	"cellular/tabletree"
)

// checkTrees compares Tree, and Row for each row, with what package ruletable tells for all states, and checks that they leave the table as
// it was.
func checkTrees(t *testing.T, own api.Table) {
	t.Helper()
	unchanged(t, own, func(own api.Table) {
		got, e := tabletree.Tree(own)
		checkValues(t, got, e, own, nextOf(own), "Tree of ", show(own))
		for i := range own.Rows {
			got, e = tabletree.Row(own, i)
			checkValues(t, got, e, own, decidesOf(own, i), "Row of ", show(own), i)
		}
	})
}

// checkValues compares a tree of a table and an error with the reduced tree of what a function returns for all states, and the new states
// of the tree with these values.
func checkValues(t *testing.T, got api.Tree, e api.Errno, own api.Table, value func(in []int) int, call ...any) {
	t.Helper()
	list := valuesOf(own.States, len(own.Hood), value)
	want, wanted := limited(listed(own.States, own.Hood, list))
	checkTree(t, got, e, want, wanted, call...)
	if e != api.OK {
		return
	}
	if others := valuesOf(own.States, len(own.Hood), func(in []int) int { return followed(got, in) }); !slices.Equal(others, list) {
		t.Errorf("%s leads to other new states: %s", begin(fmt.Sprint(call...)), showTree(got))
	}
}

// checkNewStates compares Tree with the reduced tree of what a function returns for all states, and then calls checkTrees.
func checkNewStates(t *testing.T, own api.Table, value func(in []int) int) {
	t.Helper()
	got, e := tabletree.Tree(own)
	checkTree(t, got, e, listed(own.States, own.Hood, valuesOf(own.States, len(own.Hood), value)), api.OK, "Tree of ", show(own))
	checkTrees(t, own)
}

// P15.1: trees of small tables, node by node.
func TestTreeNodes(t *testing.T) {
	for _, c := range []struct {
		own   api.Table
		nodes []api.Node
	}{
		// The first example of the chapter.
		{table(2, 0, line, "", "100>1"), []api.Node{
			node(1, 0, 0), node(1, 1, 1), node(2, 0, 1), node(1, 1, 0), node(2, 3, 1), node(3, 2, 4),
		}},
		{table(2, 0, line, "", "100>1", "100>0"), []api.Node{
			node(1, 0, 0), node(1, 1, 1), node(2, 0, 1), node(1, 1, 0), node(2, 3, 1), node(3, 2, 4),
		}},
		// No row: the centre, or 0.
		{table(2, 0, line, ""), []api.Node{node(1, 0, 0), node(1, 1, 1), node(2, 0, 1), node(3, 2, 2)}},
		{table(3, 0, single, ""), []api.Node{node(1, 0, 1, 2)}},
		{table(8, 0, single, ""), []api.Node{node(1, 0, 1, 2, 3, 4, 5, 6, 7)}},
		{table(3, 0, pair, ""), []api.Node{node(1, 0, 0, 0), node(2, 0, 0, 0)}},
		{table(2, 0, left, "01"), []api.Node{node(1, 0, 1), node(2, 0, 0)}},
		{table(2, 0, corner, "01"), []api.Node{node(1, 0, 0), node(2, 0, 0), node(1, 1, 1), node(2, 2, 2), node(3, 1, 3)}},
		// A constant, and a position.
		{table(2, 0, left, "01 01", "ab>1", "ba>0"), []api.Node{node(1, 1, 1), node(2, 0, 0)}},
		{table(3, 0, pair, "012 012", "ab>b"), []api.Node{node(1, 0, 1, 2), node(2, 0, 0, 0)}},
		{table(3, 0, pair, "012 012", "ab>a"), []api.Node{node(1, 0, 0, 0), node(1, 1, 1, 1), node(1, 2, 2, 2), node(2, 0, 1, 2)}},
		// A variable in two elements, and one with a single state.
		{table(2, 0, pair, "01", "aa>1"), []api.Node{node(1, 1, 0), node(1, 0, 1), node(2, 0, 1)}},
		{table(3, 0, left, "2", "a1>0", "1a>a"), []api.Node{node(1, 0, 1, 2), node(1, 0, 0, 2), node(2, 0, 0, 1)}},
	} {
		got, e := tabletree.Tree(c.own)
		checkTree(t, got, e, api.Tree{States: c.own.States, Hood: c.own.Hood, Nodes: c.nodes}, api.OK, "Tree of ", show(c.own))
		checkTrees(t, c.own)
	}
}

// P15.1: trees of rows, node by node. A row decides even where another one decides first, and where it changes nothing.
func TestRowNodes(t *testing.T) {
	for _, c := range []struct {
		own   api.Table
		row   int
		nodes []api.Node
	}{
		{table(2, 0, line, "", "100>1"), 0, []api.Node{
			node(1, 0, 0), node(2, 0, 0), node(1, 1, 0), node(2, 2, 0), node(3, 1, 3),
		}},
		{table(2, 0, line, "", "100>1", "100>0"), 1, []api.Node{
			node(1, 0, 0), node(2, 0, 0), node(1, 1, 0), node(2, 2, 0), node(3, 1, 3),
		}},
		{table(2, 0, left, "01 01", "ab>0", "ba>b"), 0, []api.Node{node(1, 1, 1), node(2, 0, 0)}},
		{table(2, 0, left, "01 01", "ab>0", "ba>b"), 1, []api.Node{node(1, 1, 1), node(2, 0, 0)}},
		{table(3, 0, single, "", "1>1", "0>2", "2>0"), 0, []api.Node{node(1, 0, 1, 0)}},
		{table(3, 0, single, "", "1>1", "0>2", "2>0"), 1, []api.Node{node(1, 1, 0, 0)}},
		{table(3, 0, single, "02", "a>a"), 0, []api.Node{node(1, 1, 0, 1)}},
		{table(3, 0, pair, "12", "aa>a"), 0, []api.Node{node(1, 0, 0, 0), node(1, 0, 1, 0), node(1, 0, 0, 1), node(2, 0, 1, 2)}},
		{table(2, 3, pair, "", "01>1"), 0, []api.Node{node(1, 0, 1), node(1, 1, 0), node(2, 0, 1)}},
	} {
		got, e := tabletree.Row(c.own, c.row)
		want := api.Tree{States: c.own.States, Hood: c.own.Hood, Nodes: c.nodes}
		checkTree(t, got, e, want, api.OK, "Row of ", show(c.own), c.row)
		checkTrees(t, c.own)
	}
}

// P15.1: tables without symmetries, compared with functions: variables, and rows that overlap.
func TestTreeOfRows(t *testing.T) {
	for _, c := range []struct {
		own   api.Table
		value func(in []int) int
	}{
		{table(3, 0, line, ""), func(in []int) int { return in[1] }},
		{table(8, 0, last, ""), func(in []int) int { return in[2] }},
		{table(8, 0, pair, ""), func(in []int) int { return 0 }},
		{table(8, 0, beside, ""), func(in []int) int { return 0 }},
		// The first row that decides.
		{table(2, 0, line, "01", "1aa>0", "11a>1", "a1a>0"), func(in []int) int {
			switch {
			case in[0] == 1 && in[1] == in[2]:
				return 0
			case in[0] == 1 && in[1] == 1:
				return 1
			case in[1] == 1 && in[0] == in[2]:
				return 0
			}
			return in[1]
		}},
		{table(3, 0, pair, "012 012", "a0>2", "0a>1", "ab>b"), func(in []int) int {
			if in[1] == 0 {
				return 2
			}
			if in[0] == 0 {
				return 1
			}
			return in[1]
		}},
		// Variables in several elements, and in the new state.
		{table(8, 0, line, "01234567 01234567", "aba>a"), func(in []int) int {
			if in[0] == in[2] {
				return in[0]
			}
			return in[1]
		}},
		{table(3, 0, row5, "012 12 0", "abcba>b", "aaaaa>2"), func(in []int) int {
			if in[0] == in[4] && in[1] == in[3] && in[1] > 0 && in[2] == 0 {
				return in[1]
			}
			if in[0] == in[1] && in[1] == in[2] && in[2] == in[3] && in[3] == in[4] {
				return 2
			}
			return in[2]
		}},
		{table(2, 0, ring4, "01 01 1", "abab>b", "acbc>a"), func(in []int) int {
			if in[0] == in[2] && in[1] == in[3] {
				return in[1]
			}
			return min(in[0], in[1]*in[3])
		}},
		{table(4, 0, pair, "02 13", "ab>b", "ba>b"), func(in []int) int {
			if (in[0]+in[1])%2 == 1 {
				return max(in[0]%2*in[0], in[1]%2*in[1])
			}
			return 0
		}},
	} {
		checkNewStates(t, c.own, c.value)
	}
}

// around are the indices of the neighbours in Moore(1), clockwise from a corner on.
var around = []int{0, 1, 2, 5, 8, 7, 6, 3}

// beginsPair reports whether exactly two neighbours in Moore(1) have the state 1, all others have 0, and these two lie side by side: one at
// an even place of around, the other one behind it if after is 1, and ahead of it if after is -1.
func beginsPair(in []int, after int) bool {
	for k := 0; k < 8; k += 2 {
		want := make([]int, 9)
		want[around[k]], want[around[(k+after+8)%8]] = 1, 1
		if slices.Equal(in, want) {
			return true
		}
	}
	return false
}

// outside returns the states in ascending order, without that of a position.
func outside(in []int, centre int) []int {
	l := slices.Delete(slices.Clone(in), centre, centre+1)
	slices.Sort(l)
	return l
}

// P15.1: tables with symmetries, compared with functions.
func TestTreeOfSymmetries(t *testing.T) {
	for sym := range 4 {
		// Of the neighbours, which one the variable a matched is told by the symmetry: the least new state counts.
		checkNewStates(t, table(3, sym, neumann, "012 012 012 012 012", "abcde>a"), func(in []int) int {
			return []int{in[0], outside(in, 2)[0], outside(in, 2)[0], outside(in, 2)[0]}[sym]
		})
		checkNewStates(t, table(3, sym, ring4, "12 012 012 012", "abcd>a"), func(in []int) int {
			if sym == 0 {
				return in[0]
			}
			least := 3
			for _, s := range in {
				if s > 0 {
					least = min(least, s)
				}
			}
			return least % 3
		})
		// A single neighbour, and two of them.
		checkNewStates(t, table(2, sym, neumann, "", "10000>1"), func(in []int) int {
			if l := outside(in, 2); in[2] == 0 && (slices.Equal(in, []int{1, 0, 0, 0, 0}) || sym > 0 && slices.Equal(l, []int{0, 0, 0, 1})) {
				return 1
			}
			return in[2]
		})
		checkNewStates(t, table(2, sym, neumann, "", "11000>1", "00111>0"), func(in []int) int {
			few, beside := outside(in, 2), in[0] != in[4]
			switch {
			case in[2] == 0 && slices.Equal(few, []int{0, 0, 1, 1}):
				if sym == 3 || sym > 0 && beside || in[0]*in[1] == 1 {
					return 1
				}
			case in[2] == 1 && slices.Equal(few, []int{0, 0, 1, 1}):
				if sym == 3 || sym > 0 && beside || in[3]*in[4] == 1 {
					return 0
				}
			}
			return in[2]
		})
	}
	// Rotations alone do not lead to the mirror image.
	checkNewStates(t, table(2, 1, moore, "", "110000000>1"), func(in []int) int {
		if beginsPair(in, 1) {
			return 1
		}
		return in[4]
	})
	checkNewStates(t, table(2, 2, moore, "", "110000000>1"), func(in []int) int {
		if beginsPair(in, 1) || beginsPair(in, -1) {
			return 1
		}
		return in[4]
	})
	checkNewStates(t, table(2, 3, moore, "", "110000000>1"), func(in []int) int {
		if slices.Equal(outside(in, 4), []int{0, 0, 0, 0, 0, 0, 1, 1}) {
			return 1
		}
		return in[4]
	})
	// With SymPermute the centre remains where it is, be it the first position or the last one.
	checkNewStates(t, table(3, 3, corner, "", "012>1", "120>0"), func(in []int) int {
		return in[0] + map[string]int{"[0 1 2]": 1, "[0 2 1]": 1, "[1 0 2]": -1, "[1 2 0]": -1}[fmt.Sprint(in)]
	})
	checkNewStates(t, table(3, 3, last, "", "120>1"), func(in []int) int {
		return in[2] + map[string]int{"[1 2 0]": 1, "[2 1 0]": 1}[fmt.Sprint(in)]
	})
}

// P15.1: tables with the neighbourhood Moore(1), in which rows count neighbours.
func TestTreeOfLife(t *testing.T) {
	life := table(2, 3, moore, "01")
	for n := range 9 {
		neighbours := strings.Repeat("1", n) + strings.Repeat("0", 8-n)
		switch text := neighbours[:4] + "a" + neighbours[4:]; n {
		case 2:
		case 3:
			life.Rows = append(life.Rows, row(text+">1"))
		default:
			life.Rows = append(life.Rows, row(text+">0"))
		}
	}
	checkNewStates(t, life, func(in []int) int {
		number := 0
		for i, s := range in {
			if i != 4 {
				number += s
			}
		}
		if number == 3 || number == 2 && in[4] == 1 {
			return 1
		}
		return 0
	})
}

// P15.1: random tables with each neighbourhood, each kind of symmetry that it permits, and each number of states for which all states can
// be visited soon.
func TestTreeRandom(t *testing.T) {
	t.Parallel()
	rng := rand.New(rand.NewSource(151))
	for _, c := range permitted {
		for _, sym := range c.syms {
			for states, size := 2, 0; states <= api.MaxStates; states++ {
				size = len(everyState(states, len(drawn(c.drawing))))
				for range 4 {
					if size < 2000 {
						checkTrees(t, randomTable(rng, c.drawing, states, sym, 1+rng.Intn(5), rng.Intn(6)))
					}
				}
			}
		}
	}
	for _, c := range []struct {
		drawing     string
		states, sym int
	}{{neumann, 8, 1}, {corners, 5, 2}, {swirl, 8, 1}, {ring8, 2, 2}, {ring8, 3, 3}, {moore, 2, 1}, {moore, 2, 2}, {moore, 3, 3}} {
		checkTrees(t, randomTable(rng, c.drawing, c.states, c.sym, 6, 3))
	}
}

// P15.1, and LANGUAGE.md, rule 7: the trees are new memory.
func TestTreeIsNew(t *testing.T) {
	rng := rand.New(rand.NewSource(152))
	for _, c := range permitted {
		for _, states := range []int{2, 3} {
			own := randomTable(rng, c.drawing, states, c.syms[rng.Intn(len(c.syms))], 3, 3)
			checkNewTree(t, own, tabletree.Tree)
			checkNewTree(t, own, func(t api.Table) (api.Tree, api.Errno) { return tabletree.Row(t, 1) })
			own.Rows = nil
			checkNewTree(t, own, tabletree.Tree)
		}
	}
}

// checkNewTree writes into each list of a tree that a call returned, and behind it, and checks that nothing else changes: no other list of
// the tree, not the table that the call was given, and no tree that the same call returns. Then it changes the table instead.
func checkNewTree(t *testing.T, own api.Table, call func(t api.Table) (api.Tree, api.Errno)) {
	t.Helper()
	given := laidTable(own)
	got, e := call(given)
	if e != api.OK {
		t.Fatalf("the error is %d", e)
	}
	want, again := laidTree(got), laidTree(got)
	for i := range got.Nodes {
		fill(got.Nodes[i].Next, 99)
		want.Nodes[i].Next = slices.Repeat([]int{99}, got.States)
		if !sameTree(got, want) {
			t.Errorf("the node %d of %s shares memory", i, showTree(got))
		}
	}
	spoilTree(got)
	if !sameTable(wholeTable(given), wholeTable(laidTable(own))) {
		t.Errorf("a tree shares memory with %s", show(own))
	}
	got, e = call(given)
	checkTree(t, got, e, again, api.OK, "the tree of the same call")
	spoil(given)
	checkTree(t, got, e, again, api.OK, "the tree, after a change of the table,")
}

// P15.1: tables with MaxRows rows and MaxVars variables.
func TestTreeOfManyRows(t *testing.T) {
	for _, sym := range []int{0, 1, 2, 3} {
		own := table(4, sym, neumann, "")
		for v := range api.MaxVars {
			own.Vars = append(own.Vars, []int{v % 4})
		}
		rng := rand.New(rand.NewSource(int64(153 + sym)))
		for range api.MaxRows {
			r := api.Row{Out: rng.Intn(4)}
			for range own.Hood {
				r.Ins = append(r.Ins, rng.Intn(4+api.MaxVars)-api.MaxVars)
			}
			own.Rows = append(own.Rows, r)
		}
		if !ruletable.Right(own) {
			t.Fatal("the table is not valid")
		}
		want := listed(4, own.Hood, valuesOf(4, 5, nextOf(own)))
		got, e := tabletree.Tree(own)
		checkTree(t, got, e, want, api.OK, "Tree of ", show(own))
		for _, i := range []int{0, 1, 200, 398, 399} {
			got, e := tabletree.Row(own, i)
			checkTree(t, got, e, listed(4, own.Hood, valuesOf(4, 5, decidesOf(own, i))), api.OK, "Row of ", show(own), i)
		}
	}
}
