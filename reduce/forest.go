package reduce

import (
	"slices"

	"cellular/api"
	"cellular/tree"
)

// none is the element of a node that leads to no new state.
const none = -1

// row has an element for each state, and zeros behind them.
type row [api.MaxStates]int32

// node is a node of a forest. Its elements are numbers of nodes; those of a node of the least level are new states, or none.
type node struct {
	level int
	next  row
}

// forest contains the nodes of several trees that have the same number of states and the same levels. The node i has the number
// states + i, so that it is never the same as a new state. As no two nodes are equal, no two nodes that read the same positions lead to the
// same new states.
type forest struct {
	states  int
	nodes   []node
	numbers map[node]int32
}

// newForest returns a forest without nodes.
func newForest(states int) *forest {
	return &forest{states: states, numbers: map[node]int32{}}
}

// add returns the number of a node.
func (f *forest) add(n node) int32 {
	number, is := f.numbers[n]
	if !is {
		number = int32(f.states + len(f.nodes))
		f.numbers[n] = number
		f.nodes = append(f.nodes, n)
	}
	return number
}

// node returns the node with a number.
func (f *forest) node(number int32) node {
	return f.nodes[int(number)-f.states]
}

// plant adds the nodes of a valid tree, and returns the number of its root.
func (f *forest) plant(t api.Tree) int32 {
	numbers := make([]int32, len(t.Nodes))
	for i, own := range t.Nodes {
		n := node{level: own.Level}
		for s, next := range own.Next {
			n.next[s] = int32(next)
			if own.Level > 1 {
				n.next[s] = numbers[next]
			}
		}
		numbers[i] = f.add(n)
	}
	return numbers[len(numbers)-1]
}

// nodesOf returns the nodes of the reduced tree with a root; if they are too many, some more than the limit.
func (f *forest) nodesOf(root int32, levels int) []api.Node {
	return f.walk(root, levels, func(number int32, level int) row { return f.node(number).next })
}

// reordered returns the nodes of the reduced tree that leads to the same new states as a root, but reads the positions in another order;
// if they are too many, some more than the limit.
//
// Each of these nodes is found as the root of a tree that reads the remaining positions in the old order. As such a tree has at most as
// many nodes as the given one, all of them together are limited by the numbers of nodes before and after.
func (f *forest) reordered(root int32, positions []int) []api.Node {
	levels := len(positions)
	known := map[int32]row{}
	return f.walk(root, levels, func(number int32, level int) row {
		return f.examine(number, levels-positions[levels-level], known)
	})
}

// walk returns the nodes of a reduced tree in the order in which a walk finishes them. The elements of a node are returned by a
// function, for its number and its level in this tree. The walk ends when there are too many nodes.
func (f *forest) walk(root int32, levels int, elements func(number int32, level int) row) []api.Node {
	var nodes []api.Node
	finished := map[int32]int{}
	var visit func(number int32, level int) int
	visit = func(number int32, level int) int {
		if level == 0 {
			return int(number)
		}
		if i, is := finished[number]; is || len(nodes) > api.MaxTree {
			return i
		}
		next := make([]int, f.states)
		own := elements(number, level)
		for s := range next {
			next[s] = visit(own[s], level-1)
		}
		finished[number] = len(nodes)
		nodes = append(nodes, api.Node{Level: level, Next: next})
		return finished[number]
	}
	visit(root, levels)
	return nodes
}

// examine returns, for each state of the position that the nodes of a level read, the number of the node that leads to the same new
// states as a given one does then. As no node of this level is below it any more, a node is examined for one level only, and the results
// that are known already are found by its number.
func (f *forest) examine(number int32, level int, known map[int32]row) row {
	own := f.node(number)
	if own.level == level {
		return own.next
	}
	if result, is := known[number]; is {
		return result
	}
	var without [api.MaxStates]node
	for s := range f.states {
		for state, below := range f.examine(own.next[s], level, known) {
			without[state].next[s] = below
		}
	}
	var result row
	for state := range f.states {
		without[state].level = own.level
		result[state] = f.add(without[state])
	}
	known[number] = result
	return result
}

// choose returns the number of the root of the tree that leads to the new state of l[s], where s is the new state of by; false if it
// certainly has too many nodes.
//
// Each tree is cut down to the new states where it is chosen, and then added to the result. What is left of it, behind some states of the
// neighbourhood, is determined by the nodes to which these lead in by and in the final result. So at most as many pairs of nodes are
// combined as the final result has nodes, times the greatest number of nodes of a level of by. If all trees were combined at once instead,
// there could be a node for each selection of nodes from them, even if they differ only where they are not chosen.
func (f *forest) choose(by api.Tree, l []api.Tree) (int32, bool) {
	roots, firsts := make([]int32, len(l)), make([]int, len(l))
	for s, t := range l {
		roots[s] = f.plant(t)
		firsts[s] = slices.Index(roots, roots[s])
	}
	by, _ = Map(by, firsts)
	most := api.MaxTree * slices.Max(tree.Size(by))
	selection := f.plant(by)
	result, few := int32(none), true
	for s := 0; s < len(l) && few; s++ {
		if firsts[s] == s {
			// A tree has at most MaxTree nodes itself, so these pairs are never too many.
			part, _ := f.combine(selection, roots[s], most, where(s))
			result, few = f.combine(result, part, most, either)
		}
	}
	return result, few
}

// where returns a function that returns its second argument if its first one is a state s, and none otherwise.
func where(s int) func(state, value int32) int32 {
	return func(state, value int32) int32 {
		if int(state) == s {
			return value
		}
		return none
	}
}

// either returns the one of two numbers that is not none, or none.
func either(a, b int32) int32 {
	return max(a, b)
}

// combine returns the number of the node that leads to what a function returns for what two nodes lead to; false if more than a number of
// pairs of nodes had to be combined. If one of them is not the number of a node, the function returns the result for both.
func (f *forest) combine(a, b int32, most int, value func(a, b int32) int32) (int32, bool) {
	combined := map[[2]int32]int32{}
	var visit func(a, b int32) int32
	visit = func(a, b int32) int32 {
		if int(min(a, b)) < f.states {
			return value(a, b)
		}
		if number, is := combined[[2]int32{a, b}]; is || len(combined) > most {
			return number
		}
		x, y := f.node(a), f.node(b)
		own := node{level: x.level}
		for s := range f.states {
			own.next[s] = visit(x.next[s], y.next[s])
		}
		number := f.add(own)
		combined[[2]int32{a, b}] = number
		return number
	}
	result := visit(a, b)
	return result, len(combined) <= most
}
