package tree_test

import (
	"math"
	"math/rand"
	"slices"
	"testing"

	"cellular/api"
	"cellular/tree"
)

// checkSame compares Same with the expected result, in both orders, and checks that it changes nothing.
func checkSame(t *testing.T, a, b api.Tree, want bool) {
	t.Helper()
	if sameModel(a, b) != want {
		t.Errorf("the model tells %v of %s and %s", !want, show(a), show(b))
	}
	unchanged(t, a, nil, func(a api.Tree, _ []int) {
		unchanged(t, b, nil, func(b api.Tree, _ []int) {
			if tree.Same(a, b) != want || tree.Same(b, a) != want {
				t.Errorf("Same(%s, %s) is not %v", show(a), show(b), want)
			}
		})
	})
}

// changes returns trees that differ from one in one number, in the length of one list, or in the order of something.
func changes(own api.Tree) []api.Tree {
	var list []api.Tree
	change := func(how func(own *api.Tree)) {
		other := laidOut(own)
		how(&other)
		list = append(list, other)
	}
	for _, by := range []int{1, -1, 256, 1 << 32, math.MinInt} {
		change(func(own *api.Tree) { own.States += by })
		for i := range own.Hood {
			change(func(own *api.Tree) { own.Hood[i].X += by })
			change(func(own *api.Tree) { own.Hood[i].Y += by })
		}
		for i := range own.Nodes {
			change(func(own *api.Tree) { own.Nodes[i].Level += by })
			for k := range own.Nodes[i].Next {
				change(func(own *api.Tree) { own.Nodes[i].Next[k] += by })
			}
		}
	}
	change(func(own *api.Tree) { own.Hood = own.Hood[1:] })
	change(func(own *api.Tree) { own.Hood = own.Hood[:len(own.Hood)-1] })
	change(func(own *api.Tree) { own.Hood = append(own.Hood, api.Point{}) })
	change(func(own *api.Tree) { own.Hood = nil })
	change(func(own *api.Tree) { own.Nodes = own.Nodes[1:] })
	change(func(own *api.Tree) { own.Nodes = own.Nodes[:len(own.Nodes)-1] })
	change(func(own *api.Tree) { own.Nodes = append(own.Nodes, api.Node{}) })
	change(func(own *api.Tree) { own.Nodes = append(own.Nodes, own.Nodes[0]) })
	change(func(own *api.Tree) { own.Nodes = nil })
	for i := range own.Nodes {
		change(func(own *api.Tree) { own.Nodes[i].Next = nil })
		change(func(own *api.Tree) { own.Nodes[i].Next = append(own.Nodes[i].Next, 0) })
		change(func(own *api.Tree) { own.Nodes[i].Next = own.Nodes[i].Next[1:] })
		change(func(own *api.Tree) { own.Nodes[i].Next = own.Nodes[i].Next[:len(own.Nodes[i].Next)-1] })
		change(func(own *api.Tree) { slices.Reverse(own.Nodes[i].Next) })
	}
	// The same numbers in another order, or in other lists.
	change(func(own *api.Tree) { slices.Reverse(own.Hood) })
	change(func(own *api.Tree) { slices.Reverse(own.Nodes) })
	change(func(own *api.Tree) { own.Nodes[0], own.Nodes[1] = own.Nodes[1], own.Nodes[0] })
	change(func(own *api.Tree) { own.Nodes[0].Level, own.Nodes[2].Level = own.Nodes[2].Level, own.Nodes[0].Level })
	change(func(own *api.Tree) { own.Hood[0] = api.Point{X: own.Hood[0].Y, Y: own.Hood[0].X} })
	change(func(own *api.Tree) {
		own.Nodes[0].Next, own.Nodes[1].Next = own.Nodes[0].Next[:1], append(own.Nodes[1].Next, own.Nodes[0].Next[1])
	})
	return list
}

// P12.6: trees that are equal, and others that differ in one number or in one length.
func TestSame(t *testing.T) {
	for _, own := range []api.Tree{
		{States: 2, Hood: drawn(left), Nodes: []api.Node{node(1, 0, 1), node(1, 1, 0), node(2, 0, 1)}},
		{States: 2, Hood: drawn(left), Nodes: []api.Node{node(1, 1, 0), node(1, 0, 1), node(2, 1, 0)}},
		{States: 3, Hood: drawn(line), Nodes: []api.Node{node(1, 0, 1, 2), node(2, 0, 0, 1), node(3, 1, 0, 0)}},
		{States: 5, Hood: []api.Point{{X: 7, Y: 8}, {X: -9, Y: 10}}, Nodes: []api.Node{node(3, 4, 5), node(6, 7, 8, 9), node(-1, -2, -3)}},
	} {
		checkSame(t, own, own, true)
		checkSame(t, own, laidOut(own), true)
		list := changes(own)
		for i, other := range list {
			checkSame(t, own, other, false)
			checkSame(t, other, laidOut(other), true)
			for _, third := range list[:i] {
				checkSame(t, other, third, sameModel(other, third))
			}
		}
	}
}

// P12.6: trees with the same new states are equal only if their nodes are.
func TestSameValues(t *testing.T) {
	reduced := api.Tree{States: 2, Hood: drawn(left), Nodes: []api.Node{node(1, 0, 1), node(2, 0, 0)}}
	list := []api.Tree{
		reduced, inserted(reduced, 0, node(1, 0, 1)), inserted(reduced, 0, node(1, 1, 1)), inserted(reduced, 1, node(1, 0, 1)),
		{States: 2, Hood: drawn(left), Nodes: []api.Node{node(1, 0, 1), node(1, 0, 1), node(2, 0, 1)}},
		{States: 2, Hood: drawn(left), Nodes: []api.Node{node(1, 0, 1), node(1, 0, 1), node(2, 1, 0)}},
	}
	for i, a := range list {
		for k, b := range list {
			checkSame(t, a, b, i == k)
		}
	}
}

// P12.6: lists that are nil are equal to empty ones, at each depth.
func TestSameEmpty(t *testing.T) {
	none := api.Tree{}
	empty := api.Tree{Hood: []api.Point{}, Nodes: []api.Node{}}
	checkSame(t, none, none, true)
	checkSame(t, none, empty, true)
	checkSame(t, empty, empty, true)
	a := api.Tree{States: 2, Hood: []api.Point{}, Nodes: []api.Node{{}, {Level: 1, Next: []int{}}, {Level: 2, Next: []int{0}}}}
	b := api.Tree{States: 2, Hood: nil, Nodes: []api.Node{{Next: []int{}}, {Level: 1}, {Level: 2, Next: []int{0}}}}
	checkSame(t, a, b, true)
	checkSame(t, a, none, false)
	checkSame(t, api.Tree{Nodes: []api.Node{{}}}, none, false)
	checkSame(t, api.Tree{Nodes: []api.Node{{}}}, api.Tree{Nodes: []api.Node{{}, {}}}, false)
	checkSame(t, api.Tree{Nodes: []api.Node{{}}}, api.Tree{Nodes: []api.Node{node(0, 0)}}, false)
	checkSame(t, api.Tree{Nodes: []api.Node{node(0, 0)}}, api.Tree{Nodes: []api.Node{node(0, 0, 0)}}, false)
	checkSame(t, api.Tree{Hood: []api.Point{{}}}, none, false)
	checkSame(t, api.Tree{Hood: []api.Point{{}}}, api.Tree{Hood: []api.Point{{}, {}}}, false)
	checkSame(t, api.Tree{States: 1}, none, false)
}

// P12.6: trees that are not valid are compared as others are.
func TestSameInvalid(t *testing.T) {
	var list []api.Tree
	for _, n := range ints {
		list = append(list, api.Tree{States: n}, api.Tree{Hood: []api.Point{{X: n}}}, api.Tree{Hood: []api.Point{{Y: n}}},
			api.Tree{Nodes: []api.Node{node(n)}}, api.Tree{Nodes: []api.Node{node(0, n)}}, api.Tree{Nodes: []api.Node{node(0, 0, n)}},
			api.Tree{Nodes: []api.Node{node(0, n, 0)}})
	}
	for _, l := range wrongHoods() {
		list = append(list, api.Tree{Hood: l}, always(0).tree(2, l[:min(len(l), 30)]))
	}
	list = append(list, api.Tree{Nodes: make([]api.Node, 5000)}, api.Tree{Nodes: []api.Node{node(0, make([]int, 5000)...)}})
	for i, a := range list {
		checkSame(t, a, laidOut(a), true)
		for _, b := range list[:i] {
			if got, want := tree.Same(a, b), sameModel(a, b); got != want || tree.Same(b, a) != want {
				t.Errorf("Same(%s, %s) is %v", show(a), show(b), got)
			}
		}
	}
}

// P12.6: random trees, which are equal just if all their numbers are.
func TestSameRandom(t *testing.T) {
	rng := rand.New(rand.NewSource(126))
	for range 1000 {
		a := randomTree(rng, 2, drawn(left), rng.Intn(3))
		b := randomTree(rng, 2, drawn(left), rng.Intn(3))
		checkSame(t, a, b, sameModel(a, b))
		c := broken(rng, a)
		checkSame(t, a, c, sameModel(a, c))
	}
}

// checkSize compares Size with the expected result, and checks that it is new memory.
func checkSize(t *testing.T, own api.Tree, want []int) {
	t.Helper()
	if !slices.Equal(sizeModel(own), want) {
		t.Errorf("the model has the sizes %v of %s", sizeModel(own), show(own))
	}
	unchanged(t, own, nil, func(own api.Tree, _ []int) {
		sizes := tree.Size(own)
		if !slices.Equal(sizes, want) {
			t.Errorf("Size of %s is %v, not %v", show(own), sizes, want)
		}
		fill(sizes, 99)
		if again := tree.Size(own); !slices.Equal(again, want) {
			t.Errorf("a change of a result changes the next one to %v", again)
		}
	})
}

// P12.7: trees that are written down, with several nodes of a level, which are needed or not.
func TestSizeExamples(t *testing.T) {
	for _, c := range []struct {
		drawing string
		nodes   []api.Node
		want    []int
	}{
		{single, []api.Node{node(1, 0, 1)}, []int{1}},
		{single, []api.Node{node(1, 0, 1), node(1, 0, 1), node(1, 1, 0)}, []int{3}},
		{left, []api.Node{node(1, 0, 0), node(1, 1, 1), node(2, 0, 1)}, []int{2, 1}},
		{left, []api.Node{node(1, 0, 1), node(2, 0, 0)}, []int{1, 1}},
		{left, []api.Node{node(1, 0, 1), node(2, 0, 0), node(2, 0, 0)}, []int{1, 2}},
		{left, []api.Node{node(1, 0, 1), node(2, 0, 0), node(1, 0, 0), node(1, 0, 0), node(2, 3, 0)}, []int{3, 2}},
		{line, []api.Node{node(1, 0, 1), node(1, 1, 0), node(2, 0, 1), node(2, 1, 0), node(3, 2, 3)}, []int{2, 2, 1}},
		{line, []api.Node{node(1, 0, 1), node(2, 0, 0), node(2, 0, 0), node(2, 0, 0), node(3, 2, 3), node(3, 2, 3)}, []int{1, 3, 2}},
		// Trees that are not valid.
		{left, nil, nil},
		{left, []api.Node{node(1, 0, 1)}, nil},
		{left, []api.Node{node(1, 0, 1), node(2, 0, 1)}, nil},
		{left, []api.Node{node(1, 0, 2), node(2, 0, 0)}, nil},
		{left, []api.Node{node(1, 0, 1), node(2, 0, 0), node(1, 0, 1)}, nil},
		{left, []api.Node{node(1, 0, 1), node(2, 0, 0), node(3, 1, 1)}, nil},
		{left, []api.Node{node(0, 0, 1), node(2, 0, 0)}, nil},
		{left, []api.Node{node(-1, 0, 1), node(1, 0, 0), node(2, 1, 1)}, nil},
		{left, []api.Node{node(3, 0, 1), node(1, 0, 0), node(2, 1, 1)}, nil},
		{left, []api.Node{node(math.MinInt, 0, 1), node(1, 0, 0), node(2, 1, 1)}, nil},
		{left, []api.Node{node(math.MaxInt, 0, 1), node(1, 0, 0), node(2, 1, 1)}, nil},
	} {
		checkSize(t, api.Tree{States: 2, Hood: drawn(c.drawing), Nodes: c.nodes}, c.want)
	}
	checkSize(t, api.Tree{}, nil)
	checkSize(t, api.Tree{States: 2, Nodes: []api.Node{node(1, 0, 1)}}, nil)
	checkSize(t, api.Tree{States: 2, Hood: drawn(square), Nodes: slices.Repeat([]api.Node{node(1, 0, 1)}, 4097)}, nil)
	for _, l := range wrongHoods() {
		checkSize(t, always(0).tree(2, l), nil)
	}
}

// P12.7: trees with the greatest numbers of nodes of a level, and with each number of levels.
func TestSize(t *testing.T) {
	rng := rand.New(rand.NewSource(127))
	checkSize(t, api.Tree{States: 2, Hood: drawn(single), Nodes: slices.Repeat([]api.Node{node(1, 0, 1)}, 4096)}, []int{4096})
	own := always(1).tree(2, drawn(square))
	own.Nodes = append(own.Nodes, slices.Repeat(own.Nodes[24:], 4096-25)...)
	checkSize(t, own, append(slices.Repeat([]int{1}, 24), 4072))
	every := drawn(square)
	for n := range every {
		states := 2 + rng.Intn(7)
		checkSize(t, always(0).tree(states, every[:n+1]), slices.Repeat([]int{1}, n+1))
		for range 20 {
			own := randomTree(rng, states, every[:n+1], rng.Intn(1000))
			checkSize(t, own, sizeModel(own))
			own = randomRule(rng, states, n+1).tree(states, every[:n+1])
			checkSize(t, own, sizeModel(own))
			other := broken(rng, own)
			checkSize(t, other, sizeModel(other))
		}
	}
}
