package direct_test

import (
	"fmt"
	"math/rand"
	"testing"

	"cellular/api"
	"cellular/direct"
	"cellular/hood"
	"cellular/tree"
)

// filled returns a rule whose tree has the greatest number of nodes, the added ones of which are not needed.
func filled(t *testing.T, own rule) rule {
	t.Helper()
	nodes := make([]api.Node, api.MaxTree-len(own.Nodes), api.MaxTree)
	for i := range nodes {
		nodes[i] = node(1)
		for s := range own.States {
			nodes[i].Next = append(nodes[i].Next, (i+s)%own.States)
		}
	}
	added := len(nodes)
	for _, other := range laidOut(own.Tree).Nodes {
		for i := range other.Next {
			if other.Level > 1 {
				other.Next[i] += added
			}
		}
		nodes = append(nodes, other)
	}
	own.Nodes = nodes
	if !tree.Quiet(own.Tree) || len(nodes) != 4096 {
		t.Fatalf("%s is not quiet, or has %d nodes", show(own.Tree), len(nodes))
	}
	return own
}

// greatestRule returns a random rule with the greatest numbers of states, of offsets and of nodes.
func greatestRule(t *testing.T, rng *rand.Rand, k int) rule {
	t.Helper()
	return filled(t, remembering(rng, 160, 8, hood.Moore(2), k))
}

// P20.1, P20.2: the greatest rules and patterns, compared with the model.
func TestLimitStep(t *testing.T) {
	rng := rand.New(rand.NewSource(217))
	counts := map[api.Errno]int{}
	for _, k := range []int{1, 4, 40, 160} {
		own := greatestRule(t, rng, k)
		for _, p := range []api.Pattern{
			lattice(0, 0, full, 70, 1, 8), lattice(0, 0, full, 70, 2, 8), lattice(-900, most-999, full, 100, 5, 8), lattice(-most, 70, full, full, 1, 8),
			lattice(3-most, 3-most, full, 71, 29000, 8),
		} {
			next, e := checkStepModel(t, own, p)
			counts[e]++
			if e == api.OK {
				checkStepModel(t, own, next)
			}
			m := mapOf(p)
			for range 40 {
				c := p[rng.Intn(len(p))]
				if x, y := c.X+rng.Intn(7)-3, c.Y+rng.Intn(7)-3; isPlace(x, y) {
					checkNext(t, own, p, x, y, m.next(own, x, y), api.OK)
				}
			}
		}
	}
	if counts[api.OK] < 2 || counts[api.ErrSize] < 2 || counts[api.ErrRange] < 2 {
		t.Errorf("there are %d next generations, and %d and %d errors", counts[api.OK], counts[api.ErrRange], counts[api.ErrSize])
	}
}

// P20.3: MaxGens generations of a pattern with MaxCells cells that moves on, under the greatest rule.
func TestLimitRun(t *testing.T) {
	own := filled(t, reading(8, hood.Moore(2), 10))
	p := lattice(-15000, 0, full, 70, 1, 8)
	got, e := direct.Run(own.Tree, p, api.MaxGens)
	checkPattern(t, "Run", got, e, moved(t, p, 20000, 0), api.OK)
}

// P20.3, P20.4: MaxGens generations of a pattern with MaxCells cells that is the same from some generation on, under the greatest rule.
func TestLimitStill(t *testing.T) {
	l := hood.Moore(2)
	still := filled(t, reading(8, l, hood.Centre(l)))
	p := lattice(2-most, 2-most, full, 71, 29000, 8)
	got, e := direct.Run(still.Tree, p, api.MaxGens)
	checkPattern(t, "Run of what stays the same", got, e, p, api.OK)
	got, e = direct.Run(filled(t, dying(8, l)).Tree, p, api.MaxGens)
	checkPattern(t, "Run of what dies out", got, e, nil, api.OK)
	all, e := direct.History(still.Tree, p[:500], api.MaxGens)
	if e != api.OK || len(all) != 10001 {
		t.Fatalf("History returns %d patterns with the error %d", len(all), e)
	}
	for i, q := range all {
		checkPattern(t, fmt.Sprint("the generation ", i, " of what stays the same"), q, api.OK, p[:500], api.OK)
	}
}

// P20.4: many generations of a pattern with MaxCells cells that moves on, under the greatest rule.
func TestLimitHistory(t *testing.T) {
	own := filled(t, reading(8, hood.Moore(2), 2))
	p := lattice(-100, 100, full, 70, 1, 8)
	all, e := direct.History(own.Tree, p, 500)
	if e != api.OK || len(all) != 501 {
		t.Fatalf("History returns %d patterns with the error %d", len(all), e)
	}
	for i, q := range all {
		checkPattern(t, fmt.Sprint("the generation ", i), q, api.OK, moved(t, p, 0, 2*i), api.OK)
	}
}

// P20.3, P20.4: a single cell grows to the greatest patterns that the greatest neighbourhood permits, and to more.
func TestLimitGrowth(t *testing.T) {
	own := filled(t, greatest(8, hood.Moore(2)))
	p := cells(api.Cell{S: 7})
	want := []api.Pattern{p}
	for n := 1; n <= 17; n++ {
		var next api.Pattern
		for i := range (4*n + 1) * (4*n + 1) {
			next = append(next, api.Cell{X: i%(4*n+1) - 2*n, Y: i/(4*n+1) - 2*n, S: 7})
		}
		want = append(want, next)
	}
	checkRun(t, own, p, 17, want, api.OK)
	checkRun(t, own, p, 18, nil, api.ErrSize)
	checkRun(t, own, p, api.MaxGens, nil, api.ErrSize)
}
