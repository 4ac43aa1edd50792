package direct_test

import (
	"slices"
	"testing"

	"cellular/api"
	"cellular/direct"
	"cellular/hood"
	"cellular/pattern"
	"cellular/tree"
)

// given are rules and patterns of which functions could return the pattern itself, or a generation twice, and others.
func given() []struct {
	own rule
	p   api.Pattern
} {
	l := hood.Moore(1)
	return []struct {
		own rule
		p   api.Pattern
	}{
		{life(), ones(0, 0, "oo oo")},
		{life(), ones(0, 0, "ooo")},
		{life(), ones(0, 0, glider)},
		{life(), ones(0, 0, "oo o.")},
		{life(), ones(0, 0, "ooo ... ... ... ooo")},
		{reading(8, l, hood.Centre(l)), block(-3, 4, 9, 7, 8)},
		{reading(8, l, hood.Centre(l)), lattice(0, 0, 600, 30, 5, 8)},
		{copying(4, 0, 0), block(0, 0, 3, 1, 4)},
		{copying(4, -1, 1), block(0, 0, 3, 1, 4)},
		{greatest(3, drawn(left)), cells(api.Cell{S: 1}, api.Cell{X: 3, S: 2})},
		{dying(3, drawn(left)), cells(api.Cell{S: 1}, api.Cell{X: 3, S: 2})},
		{life(), nil},
		{life(), api.Pattern{}},
	}
}

// fill changes all elements of a list, and of the memory behind it.
func fill(p api.Pattern, n int) {
	p = p[:cap(p)]
	for i := range p {
		p[i] = api.Cell{X: n, Y: n, S: n}
	}
}

// Rules for all calls, 4, and rule 7 of the language: results are new memory, which neither the arguments nor other results share.
func TestResultsAreNew(t *testing.T) {
	for _, c := range given() {
		for n := range 4 {
			for _, f := range calls[1:] {
				if f.name == "Step" && n != 1 {
					continue
				}
				own, p := laidOut(c.own.Tree), laidPattern(c.p)
				first, e := f.own(own, p, n)
				second, _ := f.own(own, p, n)
				all, _ := historyModel(c.own, c.p, n)
				want := all[n:]
				if f.name == "History" {
					want = all
				}
				if e != api.OK || len(first) != len(want) || len(second) != len(want) {
					t.Fatalf("%s of %v by %d returns %d patterns with the error %d", f.name, short(c.p), n, len(first), e)
				}
				for i := range first {
					fill(first[i], 90+i)
					first[i] = nil
				}
				if !tree.Same(whole(own), whole(laidOut(c.own.Tree))) || !slices.Equal(p[:cap(p)], laidPattern(c.p)[:cap(p)]) {
					t.Errorf("%s: a change of the result for %v and %d changes the arguments", f.name, short(c.p), n)
				}
				fill(p, 80)
				for i := range want {
					if !pattern.Same(second[i], want[i]) {
						t.Errorf("%s: a change of the argument %v, or of another result, changes the result for %d", f.name, short(c.p), n)
					}
				}
			}
		}
	}
}

// Rule 7 of the language: no two patterns of one result share memory, even where one generation is the same as another one.
func TestHistoryIsApart(t *testing.T) {
	for _, c := range given() {
		for _, n := range []int{1, 2, 3, 20} {
			want, _ := historyModel(c.own, c.p, n)
			for i := range n + 1 {
				all, e := direct.History(c.own.Tree, c.p, n)
				if e != api.OK || len(all) != n+1 {
					t.Fatalf("History of %v returns %d patterns with the error %d", short(c.p), len(all), e)
				}
				fill(all[i], 90)
				for k, q := range all {
					if k != i && !pattern.Same(q, want[k]) {
						t.Errorf("a change of the generation %d of %v changes the generation %d", i, short(c.p), k)
					}
				}
			}
		}
	}
}

// Rules for all calls, 4: patterns that are parts of longer lists, which stay as they are.
func TestArgumentsInOneList(t *testing.T) {
	list := block(0, 0, 6, 6, 2)
	before := slices.Clone(list)
	for i := range list {
		for k := i; k <= len(list); k++ {
			want, wanted := stepModel(life(), slices.Clone(before[i:k]))
			got, e := direct.Step(life().Tree, list[i:k])
			checkPattern(t, "Step", got, e, want, wanted)
			if _, e := direct.History(life().Tree, list[i:k], 3); e != api.OK {
				t.Errorf("History returns the error %d", e)
			}
			if !slices.Equal(list, before) {
				t.Fatalf("the list becomes %v", short(list))
			}
		}
	}
}

// Rules for all calls, 3: a pattern that is nil, and one that is empty.
func TestEmptyPatterns(t *testing.T) {
	for _, p := range []api.Pattern{nil, {}, make(api.Pattern, 0, 9)} {
		for _, own := range []rule{life(), greatest(8, hood.Moore(2)), copying(3, 2, 2)} {
			for _, n := range []int{0, 1, 2, 100} {
				checkRun(t, own, p, n, make([]api.Pattern, n+1), api.OK)
			}
			checkStep(t, own, p, nil, api.OK)
			checkNext(t, own, p, 5, -5, 0, api.OK)
		}
	}
}

// Rules for all calls, 5: results depend on nothing but the arguments.
func TestCallsBefore(t *testing.T) {
	want, _ := historyModel(life(), ones(0, 0, glider), 5)
	for _, c := range given() {
		for _, f := range calls {
			first, e1 := f.own(c.own.Tree, c.p, 3)
			f.own(c.own.Tree, api.Pattern{{}}, 3)
			f.own(api.Tree{}, c.p, 3)
			second, e2 := f.own(c.own.Tree, c.p, 3)
			if e1 != e2 || !slices.EqualFunc(first, second, pattern.Same) {
				t.Errorf("%s of %v is not the same twice", f.name, short(c.p))
			}
			checkRun(t, life(), ones(0, 0, glider), 5, want, api.OK)
		}
	}
}
