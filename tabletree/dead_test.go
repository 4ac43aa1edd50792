package tabletree_test

import (
	"math/rand"
	"slices"
	"strings"
	"testing"

	"cellular/api"
	"cellular/ruletable"
	"cellular/tabletree"
)

// deadRows returns the rows of a small table that are never the first one that decides.
func deadRows(own api.Table) []int {
	firsts := map[int]bool{}
	for _, in := range everyState(own.States, len(own.Hood)) {
		for i := range own.Rows {
			if _, decides := ruletable.Match(own, i, in); decides {
				firsts[i] = true
				break
			}
		}
	}
	var dead []int
	for i := range own.Rows {
		if !firsts[i] {
			dead = append(dead, i)
		}
	}
	return dead
}

// checkDeadIs compares Dead with the expected rows, checks that it leaves the table as it was, and that Tree is the same without these rows.
func checkDeadIs(t *testing.T, own api.Table, want ...int) {
	t.Helper()
	unchanged(t, own, func(own api.Table) {
		got, e := tabletree.Dead(own)
		if !slices.Equal(got, want) || e != api.OK {
			t.Errorf("Dead of %s is %v with the error %d, not %v", show(own), got, e, want)
		}
	})
	without := own
	without.Rows = nil
	for i, r := range own.Rows {
		if !slices.Contains(want, i) {
			without.Rows = append(without.Rows, r)
		}
	}
	wanted, e := tabletree.Tree(own)
	got, f := tabletree.Tree(without)
	checkTree(t, got, f, wanted, e, "Tree without dead rows of ", show(own))
}

// checkDead compares Dead with the rows that the model finds, and calls checkDeadIs.
func checkDead(t *testing.T, own api.Table) {
	t.Helper()
	checkDeadIs(t, own, deadRows(own)...)
}

// P15.2: tables without symmetries.
func TestDeadRows(t *testing.T) {
	for _, c := range []struct {
		own  api.Table
		want []int
	}{
		// The example of the chapter, and equal rows.
		{table(2, 0, line, "", "100>1"), nil},
		{table(2, 0, line, "", "100>1", "100>0"), []int{1}},
		{table(2, 0, line, "", "100>1", "100>1", "010>0", "100>1", "010>0"), []int{1, 3, 4}},
		// No row at all, none that is dead, and all but the first one.
		{table(2, 0, line, ""), nil},
		{table(2, 0, pair, "", "00>1", "01>1", "10>1", "11>1"), nil},
		{table(2, 0, line, "01 01 01", "abc>1", "000>0", "abc>0", "aaa>a"), []int{1, 2, 3}},
		// One earlier row, several together of which none alone is enough, and some that are not enough together.
		{table(2, 0, line, "01 01", "0ab>1", "011>0"), []int{1}},
		{table(2, 0, line, "01 01", "0ab>1", "1ab>1", "aab>0"), []int{2}},
		{table(3, 0, line, "012 012", "0ab>1", "1ab>1", "aab>0"), nil},
		{table(3, 0, line, "012 012", "0ab>1", "2ab>1", "1ab>0", "aab>0", "aaa>0"), []int{3, 4}},
		{table(3, 0, line, "012 012 01", "a0b>1", "a1b>1", "acb>0", "bba>2", "b2a>0", "cab>0"), []int{2, 5}},
		{table(2, 0, pair, "01", "aa>1", "01>1", "10>1", "0a>0", "a1>0"), []int{3, 4}},
		// A row behind which a more general one comes is not dead, and neither is the general one.
		{table(2, 0, line, "01 01 01", "000>1", "00a>1", "0ab>1", "abc>1"), nil},
		// A variable with few states, and equal elements.
		{table(3, 0, line, "012 12", "bba>1", "11a>0", "12a>0", "b1a>0", "ba2>0"), []int{1}},
		{table(3, 0, pair, "012 01", "aa>1", "bb>2", "22>0", "ba>0"), []int{1, 2}},
		// Rows that decide and change nothing are not dead, and rows behind them are.
		{table(2, 0, line, "01 01", "a0b>0", "000>1", "a1b>1", "010>0"), []int{1, 3}},
		{table(2, 0, pair, "01 01", "ab>0", "ab>1"), []int{1}},
		{table(3, 0, single, "012", "a>a", "1>2"), []int{1}},
		// Equal new states do not matter.
		{table(2, 0, line, "01 01 01", "abc>1", "110>1"), []int{1}},
		{table(2, 0, line, "01 01 01", "110>1", "abc>1"), nil},
	} {
		checkDeadIs(t, c.own, c.want...)
		checkDead(t, c.own)
	}
}

// P15.2: rows that are dead only because of the rows for which earlier ones stand.
func TestDeadOfSymmetries(t *testing.T) {
	for _, c := range []struct {
		own  api.Table
		dead []int // the kinds of symmetries with which the last row is dead
	}{
		{table(2, 0, neumann, "", "10000>1", "01000>0"), []int{1, 2, 3}},
		{table(2, 0, neumann, "", "10000>1", "00010>1"), []int{1, 2, 3}},
		{table(2, 0, neumann, "", "10000>1", "00100>0"), nil},
		{table(2, 0, neumann, "", "11000>1", "10001>0"), []int{3}},
		{table(2, 0, neumann, "", "11000>1", "00011>0"), []int{1, 2, 3}},
		{table(2, 0, moore, "", "110000000>1", "011000000>0"), []int{2, 3}},
		{table(2, 0, moore, "", "110000000>1", "001001000>0"), []int{1, 2, 3}},
		{table(2, 0, moore, "", "110000000>1", "101000000>0"), []int{3}},
		{table(3, 0, ring4, "12 012", "bbaa>1", "0000>1", "12bb>2", "2bb1>1"), []int{3}},
		{table(3, 0, ring4, "12 02 012", "a0cc>1", "b0cc>1", "0ccc>1"), []int{1, 2, 3}},
	} {
		for sym := range 4 {
			own := c.own
			own.Sym = sym
			got, e := tabletree.Dead(own)
			if slices.Contains(got, len(own.Rows)-1) != slices.Contains(c.dead, sym) || e != api.OK {
				t.Errorf("Dead of %s is %v with the error %d", show(own), got, e)
			}
			checkDead(t, own)
		}
	}
}

// P15.2: each row of a valid table decides for some states, so the first one is never dead.
func TestDeadFirst(t *testing.T) {
	t.Parallel()
	rng := rand.New(rand.NewSource(154))
	for _, c := range permitted {
		for _, sym := range c.syms {
			for states := 2; states <= 4; states++ {
				own := randomTable(rng, c.drawing, states, sym, 5, 5)
				for _, r := range own.Rows {
					own.Rows = []api.Row{r}
					checkDeadIs(t, own)
					own.Rows = []api.Row{r, r}
					checkDeadIs(t, own, 1)
				}
			}
		}
	}
}

// P15.2: random tables.
func TestDeadRandom(t *testing.T) {
	t.Parallel()
	rng := rand.New(rand.NewSource(155))
	for _, c := range permitted {
		for _, sym := range c.syms {
			for states := 2; states <= api.MaxStates; states++ {
				for range 3 {
					if len(everyState(states, len(drawn(c.drawing)))) < 700 {
						checkDead(t, randomTable(rng, c.drawing, states, sym, 5, rng.Intn(30)))
					}
				}
			}
		}
	}
	for _, c := range []struct {
		drawing     string
		states, sym int
	}{{neumann, 5, 1}, {corners, 5, 2}, {swirl, 6, 1}, {neumann, 6, 3}, {ring8, 2, 2}, {ring8, 3, 3}, {moore, 2, 1}, {moore, 2, 2}, {moore, 2, 3}} {
		checkDead(t, randomTable(rng, c.drawing, c.states, c.sym, 6, 12))
	}
}

// P15.2: tables with each number of rows up to 100, and with numbers of rows up to the limit. Some rows are equal, and stand in any order.
func TestDeadNumbers(t *testing.T) {
	rng := rand.New(rand.NewSource(156))
	for rows := range api.MaxRows + 1 {
		if rows > 100 && rows < 390 && rows%64 > 2 {
			continue
		}
		own := table(8, 0, []string{line, "..... ..... o.o.o ..... ....."}[rows%2], "")
		var dead []int
		had := map[[3]int]bool{}
		for i := range rows {
			r := [3]int{rng.Intn(8), rng.Intn(8), rng.Intn(8)}
			if had[r] {
				dead = append(dead, i)
			}
			had[r] = true
			own.Rows = append(own.Rows, api.Row{Ins: slices.Clone(r[:]), Out: rng.Intn(8)})
		}
		checkDeadIs(t, own, dead...)
	}
}

// P15.2: tables with MaxRows rows, of which one only is dead, or one only is not.
func TestDeadOneOfMany(t *testing.T) {
	for _, one := range []int{0, 1, 7, 50, 51, 52, 101, 102, 306, 357, 398, 399} {
		for _, drawing := range []string{line, apart} {
			own := table(8, 0, drawing, strings.Repeat("01234567 ", 3))
			var dead []int
			for i := range api.MaxRows {
				own.Rows = append(own.Rows, api.Row{Ins: []int{i / 64, i / 8 % 8, i % 8}, Out: i % 2})
				if i > one {
					dead = append(dead, i)
				}
			}
			general := own
			general.Rows = slices.Clone(own.Rows)
			general.Rows[one] = row("abc>a")
			checkDeadIs(t, general, dead...)
			if one > 0 {
				equal := own
				equal.Rows = slices.Clone(own.Rows)
				equal.Rows[one] = equal.Rows[one/2]
				checkDeadIs(t, equal, one)
			}
		}
	}
}

// P15.2: large tables, also such whose trees have too many nodes.
func TestDeadOfLarge(t *testing.T) {
	t.Parallel()
	for _, own := range []api.Table{fullRow, manyRow} {
		own.Rows = append(own.Rows[:1:1], own.Rows[0], row(strings.Repeat("0", 16)+">0"), row("1100001111111100>1"))
		checkDeadIs(t, own, 1, 2)
	}
	own := table(2, 0, "ooooo ooooo ooooo o.... .....", strings.Repeat("01 ", 15))
	own.Rows = append(own.Rows, row("0bcdefghijklmnoa>0"), row("bcdefghijklmnoa0>1"), row("1bcdefghijklmno1>0"), row("abcdefghijklmnoa>1"))
	checkDeadIs(t, own, 3)
	own = table(4, 3, ring8, "0123 123 23 3", "aaaaaaaa>0", "bbbbcccc>1", "33333222>1", "32323232>2", "00000000>1", "bcccccca>1")
	checkDead(t, own)
}

// P15.2, and LANGUAGE.md, rule 7: the list is new memory.
func TestDeadIsNew(t *testing.T) {
	given := laidTable(table(2, 0, line, "01 01", "0ab>1", "1ab>1", "aab>0", "000>1"))
	own := laidTable(given)
	got, e := tabletree.Dead(given)
	fill(got, 99)
	if !sameTable(wholeTable(given), wholeTable(laidTable(own))) || e != api.OK {
		t.Errorf("the list shares memory with the table, or the error is %d", e)
	}
	checkDeadIs(t, given, 2, 3)
	got, _ = tabletree.Dead(given)
	spoil(given)
	if !slices.Equal(got, []int{2, 3}) {
		t.Errorf("after a change of the table the list is %v", got)
	}
}
