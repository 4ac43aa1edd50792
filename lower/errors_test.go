package lower_test

import (
	"math"
	"math/rand"
	"slices"
	"testing"

	"cellular/api"
	"cellular/lower"
	"cellular/tree"
)

// wrongTrees returns trees that are not valid. Each of them breaks a single condition of a tree that is, where this is possible.
func wrongTrees(t api.Tree) []api.Tree {
	list := append(wrongStates(t), wrongHoods(t)...)
	list = append(list, wrongNumbers(t)...)
	return append(list, wrongNodes(t)...)
}

// wrongStates returns trees with numbers of states that a rule may not have.
func wrongStates(t api.Tree) []api.Tree {
	var list []api.Tree
	for _, states := range ints {
		if states != t.States {
			other := laidOut(t)
			other.States = states
			list = append(list, other)
		}
	}
	for _, states := range []int{0, 1, 9, 10} {
		other := api.Tree{States: states, Hood: t.Hood}
		for level := range t.Hood {
			other.Nodes = append(other.Nodes, node(level+1, slices.Repeat([]int{max(0, level-1)}, states)...))
		}
		list = append(list, other)
	}
	return list
}

// wrongHoods returns trees with lists that are no neighbourhoods.
func wrongHoods(t api.Tree) []api.Tree {
	var list []api.Tree
	change := func(how func(l []api.Point) []api.Point) {
		other := laidOut(t)
		other.Hood = how(other.Hood)
		list = append(list, other)
	}
	change(func(l []api.Point) []api.Point { return nil })
	change(func(l []api.Point) []api.Point { return l[1:] })
	change(func(l []api.Point) []api.Point { return append(l, l[len(l)-1]) })
	change(func(l []api.Point) []api.Point { return append(l, api.Point{X: 2, Y: 2}) })
	change(func(l []api.Point) []api.Point { return append(l, make([]api.Point, 26)...) })
	for _, c := range []int{-3, 3, 256, 1 << 32, math.MinInt, math.MaxInt} {
		for i := range t.Hood {
			change(func(l []api.Point) []api.Point { l[i].X = c; return l })
			change(func(l []api.Point) []api.Point { l[i].Y = c; return l })
		}
	}
	for i := range len(t.Hood) - 1 {
		change(func(l []api.Point) []api.Point { l[i] = l[i+1]; return l })
		change(func(l []api.Point) []api.Point { l[i], l[i+1] = l[i+1], l[i]; return l })
	}
	return list
}

// wrongNumbers returns trees without nodes, with too many of them, or with a last one that is no root.
func wrongNumbers(t api.Tree) []api.Tree {
	none, many := t, laidOut(t)
	none.Nodes = nil
	root := t.Nodes[len(t.Nodes)-1]
	many.Nodes = append(many.Nodes, slices.Repeat([]api.Node{root}, 4097-len(t.Nodes))...)
	list := []api.Tree{none, many}
	if len(t.Hood) > 1 {
		other := laidOut(t)
		other.Nodes = append(other.Nodes, node(1, make([]int, t.States)...))
		list = append(list, other)
	}
	return list
}

// wrongNodes returns trees in which the level, an element or the number of elements of a node is wrong. The last node is behind the root, to
// which it is equal.
func wrongNodes(t api.Tree) []api.Tree {
	var list []api.Tree
	t = laidOut(t)
	last := len(t.Nodes)
	t.Nodes = append(t.Nodes, t.Nodes[last-1])
	for _, i := range []int{0, last / 2, last - 1, last} {
		change := func(how func(own *api.Node)) {
			other := laidOut(t)
			how(&other.Nodes[i])
			list = append(list, other)
		}
		for _, level := range []int{math.MinInt, -1, 0, len(t.Hood) + 1, 26, 256 + t.Nodes[i].Level, 1<<32 + t.Nodes[i].Level, math.MaxInt} {
			change(func(own *api.Node) { own.Level = level })
		}
		change(func(own *api.Node) { own.Next = nil })
		change(func(own *api.Node) { own.Next = own.Next[1:] })
		change(func(own *api.Node) { own.Next = append(own.Next, own.Next[0]) })
		for place := range t.States {
			for _, e := range wrongElements(t, i) {
				change(func(own *api.Node) { own.Next[place] = e })
			}
		}
	}
	return list
}

// wrongElements returns numbers that a node may not have as elements.
func wrongElements(t api.Tree, i int) []int {
	level := t.Nodes[i].Level
	if level == 1 {
		return []int{math.MinInt, -256, -1, t.States, t.States + 1, 256, 1 << 32, math.MaxInt}
	}
	list := []int{math.MinInt, -1, i, i + 1, len(t.Nodes), 1 << 32, math.MaxInt}
	for other := range i {
		if own := t.Nodes[other].Level; own != level-1 && len(list) < 20 {
			list = append(list, other)
		}
	}
	return list
}

// P18.2: trees that are not valid.
func TestLowerErrRule(t *testing.T) {
	rng := rand.New(rand.NewSource(190))
	checkLowerError(t, api.Tree{}, api.ErrRule)
	for _, base := range []api.Tree{
		constant(2, 1, 0), reading(2, 2, 0), reading(2, 9, 4), reading(3, 1, 0), constant(3, 4, 2), reading(4, 3, 1), constant(5, 2, 3),
		reading(6, 2, 1), constant(7, 5, 0), reading(8, 3, 2), constant(8, 25, 7), randomTree(rng, 2, 3, 20), randomTree(rng, 5, 4, 50),
	} {
		checkLowered(t, base)
		for _, own := range wrongTrees(base) {
			if tree.Right(own) {
				t.Fatalf("the tree %s is valid", show(own))
			}
			checkLowerError(t, own, api.ErrRule)
		}
	}
}

// P18.2: the greatest number of gates, and one gate too many.
func TestLowerErrSize(t *testing.T) {
	rng := rand.New(rand.NewSource(191))
	bases := []api.Tree{constant(4, 1, 3), constant(5, 1, 4), constant(7, 1, 6), constant(8, 1, 7)}
	for states := 3; states <= 8; states++ {
		bases = append(bases, constant(states, 2, states-1), reading(states, 9, 8), randomTree(rng, states, 3+2*states, 200))
	}
	for _, base := range bases {
		for _, gates := range []int{20000, 20001} {
			own := sized(base, gates)
			if !tree.Right(own) || len(lowerModel(own).Gates) != gates {
				t.Fatalf("the tree %s is not valid, or has not %d gates", show(own), gates)
			}
			if gates > 20000 {
				checkLowerError(t, own, api.ErrSize)
			} else {
				checkLowered(t, own)
			}
		}
	}
}

// P18.2: the greatest numbers of nodes and of positions.
func TestLowerMostNodes(t *testing.T) {
	rng := rand.New(rand.NewSource(192))
	for _, positions := range []int{1, 2, 9, 25} {
		// With two states there are never too many gates.
		checkLowered(t, randomTree(rng, 2, positions, 4096))
		for states := 3; states <= 8; states++ {
			own := randomTree(rng, states, positions, 4096)
			if len(lowerModel(own).Gates) > 20000 {
				checkLowerError(t, own, api.ErrSize)
			} else {
				checkLowered(t, own)
			}
		}
	}
	checkLowerError(t, randomTree(rng, 8, 25, 4096), api.ErrSize)
}

// P18.2: trees to which both errors apply.
func TestLowerErrorOrder(t *testing.T) {
	rng := rand.New(rand.NewSource(193))
	for _, base := range []api.Tree{
		sized(constant(8, 1, 7), 20001), sized(reading(5, 2, 0), 20001), sized(randomTree(rng, 7, 9, 100), 40000),
	} {
		checkLowerError(t, base, api.ErrSize)
		for _, own := range wrongTrees(base) {
			checkLowerError(t, own, api.ErrRule)
		}
	}
}

// P18.2: random changes of trees. Every call ends, and tells whether the tree is valid.
func TestLowerRandomChanges(t *testing.T) {
	rng := rand.New(rand.NewSource(194))
	for range 3000 {
		positions := 1 + rng.Intn(4)
		own := laidOut(randomTree(rng, 2+rng.Intn(7), positions, positions+1+rng.Intn(20)))
		n := &own.Nodes[rng.Intn(len(own.Nodes))]
		number := ints[rng.Intn(len(ints))]
		switch rng.Intn(4) {
		case 0:
			n.Level = number
		case 1:
			own.States = number
		default:
			n.Next[rng.Intn(len(n.Next))] = number
		}
		if tree.Right(own) {
			checkLowered(t, own)
			continue
		}
		checkLowerError(t, own, api.ErrRule)
		checkInputsError(t, own, make([]int, positions), api.ErrRule)
	}
}

// P18.2: after an error the results are those of a call without one before.
func TestLowerAfterErrors(t *testing.T) {
	own := reading(3, 2, 1)
	large := sized(own, 20001)
	for range 3 {
		checkLowered(t, own)
		if _, e := lower.Lower(api.Tree{}); e != api.ErrRule {
			t.Errorf("the error is %d", e)
		}
		if _, e := lower.Lower(large); e != api.ErrSize {
			t.Errorf("the error is %d", e)
		}
	}
}
