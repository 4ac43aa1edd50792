package ruletable

import (
	"slices"

	"cellular/api"
	"cellular/hood"
	"cellular/point"
	"cellular/symmetry"
)

// question asks rows of a valid table for the new state that belongs to states of the neighbourhood.
type question struct {
	table  api.Table
	in     []int
	centre int     // the index of the centre, or -1
	views  [][]int // the states as they lie before a row, for each symmetry that turns it; none with SymPermute
}

// tally is the number of cells in each state, of nine at most. Bytes make tallies short, as many of them are compared.
type tally [api.MaxStates]uint8

// ask returns the question for states.
func ask(t api.Table, in []int) *question {
	q := &question{table: t, in: in, centre: hood.Centre(t.Hood)}
	if t.Sym == api.SymPermute {
		return q
	}
	for k := range symmetries(t.Sym) {
		q.views = append(q.views, q.view(k))
	}
	return q
}

// view returns the states that the elements of a row meet when a symmetry has turned it.
func (q *question) view(k int) []int {
	view := make([]int, 0, len(q.in))
	for _, p := range q.table.Hood {
		i, _ := slices.BinarySearchFunc(q.table.Hood, symmetry.Apply(k, p), point.Compare)
		view = append(view, q.in[i])
	}
	return view
}

// answer returns the new state that a row leads to, and whether it decides.
func (q *question) answer(row api.Row) (int, bool) {
	if q.table.Sym == api.SymPermute {
		return q.permuted(row)
	}
	return q.turned(row)
}

// turned returns the answer of a row that stands for those to which symmetries turn it.
func (q *question) turned(row api.Row) (int, bool) {
	least := q.table.States
	for _, view := range q.views {
		if !q.matches(row, view) {
			continue
		}
		state := row.Out
		if state < 0 {
			state = view[slices.Index(row.Ins, row.Out)]
		}
		least = min(least, state)
	}
	if least == q.table.States {
		return 0, false
	}
	return least, true
}

// matches reports whether a row, as it is, matches states.
func (q *question) matches(row api.Row, view []int) bool {
	for i, e := range row.Ins {
		first := slices.Index(row.Ins, e)
		if view[i] != view[first] || first == i && !q.accepts(e, view[i]) {
			return false
		}
	}
	return true
}

// accepts reports whether an element matches a state, if nothing else is known.
func (q *question) accepts(e, state int) bool {
	if e >= 0 {
		return e == state
	}
	return slices.Contains(q.table.Vars[-1-e], state)
}

// permuted returns the answer of a row that stands for those with its elements in other orders. There may be 9! of them, but they
// differ only in how many cells of each state they leave to the elements: equal elements need as many cells of one state.
func (q *question) permuted(row api.Row) (int, bool) {
	var all tally
	for _, state := range q.in {
		all[state]++
	}
	rests := []tally{all}
	for i, e := range row.Ins {
		// The element that is the new state comes last: its least possible state is the answer.
		if e == row.Out || slices.Index(row.Ins, e) < i {
			continue
		}
		rests = without(rests, q.choices(row, e), count(row.Ins, e))
		if len(rests) == 0 {
			return 0, false
		}
	}
	for _, state := range q.choices(row, row.Out) {
		if len(without(rests, []int{state}, count(row.Ins, row.Out))) > 0 {
			return state, true
		}
	}
	return 0, false
}

// choices returns the states, in ascending order, that an element of a row, or its new state, may stand for in some order.
func (q *question) choices(row api.Row, e int) []int {
	accepted := []int{e}
	if e < 0 {
		accepted = q.table.Vars[-1-e]
	}
	if q.centre < 0 || row.Ins[q.centre] != e {
		return accepted
	}
	if !slices.Contains(accepted, q.in[q.centre]) {
		return nil
	}
	return q.in[q.centre : q.centre+1]
}

// without returns what can be left of one of some tallies when n cells in one of some states are taken away.
func without(from []tally, states []int, n uint8) []tally {
	var rests []tally
	for _, rest := range from {
		for _, state := range states {
			if rest[state] < n {
				continue
			}
			taken := rest
			taken[state] -= n
			if !slices.Contains(rests, taken) {
				rests = append(rests, taken)
			}
		}
	}
	return rests
}

// count returns how often a list contains an element.
func count(l []int, e int) uint8 {
	var n uint8
	for _, other := range l {
		if other == e {
			n++
		}
	}
	return n
}
