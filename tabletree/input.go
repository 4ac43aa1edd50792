package tabletree

import (
	"slices"

	"cellular/api"
)

// An input is a list of states, one for each position of a neighbourhood. The inputs are numbered from 0 on in ascending order.

// mostInputs is the greatest number of inputs of a small table.
const mostInputs = 65536

// inputs returns the number of inputs of a valid table, and whether it is small.
func inputs(t api.Table) (int, bool) {
	size := 1
	for range t.Hood {
		size *= t.States
		// A greater power may not fit into an int.
		if size > mostInputs {
			return 0, false
		}
	}
	return size, true
}

// input returns the input with a number.
func input(t api.Table, number int) []int {
	in := make([]int, len(t.Hood))
	for i := range slices.Backward(in) {
		in[i] = number % t.States
		number /= t.States
	}
	return in
}

// equivalent returns the number of the first input with which each row of a valid table does the same as with a given one, as far as
// this saves many calls: with SymPermute, the states of the neighbours may be exchanged in any way.
func equivalent(t api.Table, in []int) int {
	if t.Sym == api.SymPermute {
		in = arranged(in, slices.Index(t.Hood, api.Point{}))
	}
	number := 0
	for _, state := range in {
		number = number*t.States + state
	}
	return number
}

// arranged returns the states of an input in ascending order, but with that of the centre in its place.
func arranged(in []int, centre int) []int {
	if centre < 0 {
		return slices.Sorted(slices.Values(in))
	}
	others := slices.Delete(slices.Clone(in), centre, centre+1)
	slices.Sort(others)
	return slices.Insert(others, centre, in[centre])
}

// collect returns the reduced tree with the states and the neighbourhood of a valid table that leads to what a function returns for each
// input. The function must return the same for equivalent inputs.
func collect(t api.Table, value func(in []int) int) (api.Tree, api.Errno) {
	size, small := inputs(t)
	if !small {
		return api.Tree{}, api.ErrSize
	}
	values := make([]byte, size)
	for number := range values {
		in := input(t, number)
		if first := equivalent(t, in); first < number {
			values[number] = values[first]
			continue
		}
		values[number] = byte(value(in))
	}
	own := api.Tree{States: t.States, Hood: slices.Clone(t.Hood), Nodes: nodesOf(t.States, len(t.Hood), string(values))}
	if len(own.Nodes) > api.MaxTree {
		return api.Tree{}, api.ErrSize
	}
	return own, api.OK
}

// nodesOf returns the nodes of the reduced tree with a number of levels that leads to a new state for each input.
func nodesOf(states, levels int, values string) []api.Node {
	var nodes []api.Node
	// Nodes of different levels have different numbers of new states that remain to be examined.
	made := map[string]int{}
	var visit func(level int, rest string) int
	visit = func(level int, rest string) int {
		if level == 0 {
			return int(rest[0])
		}
		if number, is := made[rest]; is {
			return number
		}
		own := api.Node{Level: level, Next: make([]int, states)}
		part := len(rest) / states
		for s := range own.Next {
			own.Next[s] = visit(level-1, rest[s*part:(s+1)*part])
		}
		made[rest] = len(nodes)
		nodes = append(nodes, own)
		return made[rest]
	}
	visit(levels, values)
	return nodes
}
