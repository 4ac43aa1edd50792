package totaltree_test

import (
	"math"
	"math/rand"
	"testing"

	"cellular/api"
	"cellular/totaltree"
	"cellular/tree"
	"cellular/wolfram"
)

// checkElementary compares Elementary with the expected results.
func checkElementary(t *testing.T, n int, want api.Tree, wanted api.Errno) {
	t.Helper()
	got, e := totaltree.Elementary(n)
	checkTree(t, got, e, want, wanted, "Elementary of", n)
}

// checkSums compares Sums with the expected results.
func checkSums(t *testing.T, states, n int, want api.Tree, wanted api.Errno) {
	t.Helper()
	got, e := totaltree.Sums(states, n)
	checkTree(t, got, e, want, wanted, "Sums of", states, n)
}

// zeros are the nodes of the tree that leads to 0 for two states and a row.
func zeros() []api.Node {
	return []api.Node{node(1, 0, 0), node(2, 0, 0), node(3, 1, 1)}
}

// P14.2: trees of elementary rules, node by node.
func TestElementaryNodes(t *testing.T) {
	for _, c := range []struct {
		n     int
		nodes []api.Node
	}{
		{0, zeros()},
		{255, []api.Node{node(1, 1, 1), node(2, 0, 0), node(3, 1, 1)}},
		// The state to the left, of the centre and to the right.
		{240, []api.Node{node(1, 0, 0), node(2, 0, 0), node(1, 1, 1), node(2, 2, 2), node(3, 1, 3)}},
		{204, []api.Node{node(1, 0, 0), node(1, 1, 1), node(2, 0, 1), node(3, 2, 2)}},
		{170, []api.Node{node(1, 0, 1), node(2, 0, 0), node(3, 1, 1)}},
		// Only the lowest or the highest bit.
		{1, []api.Node{node(1, 1, 0), node(1, 0, 0), node(2, 0, 1), node(2, 1, 1), node(3, 2, 3)}},
		{128, []api.Node{node(1, 0, 0), node(2, 0, 0), node(1, 0, 1), node(2, 0, 2), node(3, 1, 3)}},
		{90, []api.Node{node(1, 0, 1), node(2, 0, 0), node(1, 1, 0), node(2, 2, 2), node(3, 1, 3)}},
		{110, []api.Node{node(1, 0, 1), node(1, 1, 1), node(2, 0, 1), node(1, 1, 0), node(2, 0, 3), node(3, 2, 4)}},
	} {
		checkElementary(t, c.n, made(2, line, c.nodes...), api.OK)
	}
}

// P14.2, P14.7: all elementary rules, compared with the new states that layer 10 and the bits of the number name. A rule is quiet if and
// only if its number is even.
func TestElementary(t *testing.T) {
	for n := range 256 {
		list, bits := make([]int, 8), make([]int, 8)
		l, _ := wolfram.Elementary(n)
		for i, in := range everyState(2, 3) {
			list[i] = l[in[0]*4+in[1]*2+in[2]]
			bits[i] = n >> (in[0]*4 + in[1]*2 + in[2]) & 1
		}
		checkElementary(t, n, listed(2, drawn(line), list), api.OK)
		checkElementary(t, n, listed(2, drawn(line), bits), api.OK)
		if own, _ := totaltree.Elementary(n); tree.Quiet(own) != (n%2 == 0) {
			t.Errorf("the tree of the elementary rule %d is quiet: %t", n, tree.Quiet(own))
		}
	}
}

// P14.2: numbers that are no elementary rules.
func TestElementaryWrong(t *testing.T) {
	for _, n := range ints {
		if n < 0 || n > 255 {
			checkElementary(t, n, api.Tree{}, api.ErrRange)
		}
	}
}

// digit returns a digit of a number, of which the lowest one is 0.
func digit(base, n, k int) int {
	for range k {
		n /= base
	}
	return n % base
}

// sumTree returns the reduced tree of a totalistic rule, from the list of all new states.
func sumTree(states, n int) api.Tree {
	var list []int
	for _, in := range everyState(states, 3) {
		list = append(list, digit(states, n, in[0]+in[1]+in[2]))
	}
	return listed(states, drawn(line), list)
}

// last returns the greatest code for a number of states.
func last(states int) int {
	n := 0
	for range 3*states - 2 {
		if n > (math.MaxInt-(states-1))/states {
			return math.MaxInt
		}
		n = n*states + states - 1
	}
	return n
}

// P14.3: trees of totalistic rules, node by node.
func TestSumsNodes(t *testing.T) {
	for _, c := range []struct {
		states, n int
		nodes     []api.Node
	}{
		{2, 0, zeros()},
		{2, 15, []api.Node{node(1, 1, 1), node(2, 0, 0), node(3, 1, 1)}},
		{2, 1, []api.Node{node(1, 1, 0), node(1, 0, 0), node(2, 0, 1), node(2, 1, 1), node(3, 2, 3)}},
		{2, 8, []api.Node{node(1, 0, 0), node(2, 0, 0), node(1, 0, 1), node(2, 0, 2), node(3, 1, 3)}},
		// The sum modulo 2 and modulo 3.
		{2, 10, []api.Node{node(1, 0, 1), node(1, 1, 0), node(2, 0, 1), node(2, 1, 0), node(3, 2, 3)}},
		{3, 0 + 3*1 + 9*2 + 81*1 + 243*2, []api.Node{
			node(1, 0, 1, 2), node(1, 1, 2, 0), node(1, 2, 0, 1), node(2, 0, 1, 2), node(2, 1, 2, 0), node(2, 2, 0, 1), node(3, 3, 4, 5),
		}},
		{8, 0, []api.Node{node(1, 0, 0, 0, 0, 0, 0, 0, 0), node(2, 0, 0, 0, 0, 0, 0, 0, 0), node(3, 1, 1, 1, 1, 1, 1, 1, 1)}},
	} {
		checkSums(t, c.states, c.n, made(c.states, line, c.nodes...), api.OK)
	}
}

// P14.3: all codes for two and three states, the least and the greatest code for each number of states, and some in between.
func TestSums(t *testing.T) {
	rng := rand.New(rand.NewSource(143))
	for states := 2; states <= api.MaxStates; states++ {
		codes := []int{0, 1, states - 1, states, last(states) / 2, last(states) - 1, last(states)}
		for range 30 {
			codes = append(codes, int(rng.Int63())%last(states))
		}
		if states <= 3 {
			for n := range last(states) + 1 {
				codes = append(codes, n)
			}
		}
		for _, n := range codes {
			checkSums(t, states, n, sumTree(states, n), api.OK)
		}
	}
}

// P14.3: for each sum a rule that has a new state other than 0 for this sum only.
func TestSumsDigits(t *testing.T) {
	for states := 2; states <= api.MaxStates; states++ {
		for n := 1; n <= last(states) && n > 0; n *= states {
			for s := range states {
				if n <= math.MaxInt/max(s, 1) {
					checkSums(t, states, n*s, sumTree(states, n*s), api.OK)
				}
			}
			if n > math.MaxInt/states {
				break
			}
		}
	}
}

// P14.3: the example of layer 10, for all states.
func TestSumsExample(t *testing.T) {
	own, _ := totaltree.Sums(3, 777)
	for _, in := range everyState(3, 3) {
		want := []int{0, 1, 2, 1, 0, 0, 1}[in[0]+in[1]+in[2]]
		if s, e := tree.Eval(own, in); s != want || e != api.OK {
			t.Errorf("the rule leads from %v to %d, not %d", in, s, want)
		}
	}
}

// P14.3: numbers of states that are not allowed, also with numbers that are no codes, and numbers that are no codes for any of the allowed
// ones.
func TestSumsWrong(t *testing.T) {
	for _, states := range ints {
		for _, n := range append([]int{last(2) + 1, last(3), last(3) + 1}, ints...) {
			switch {
			case states < 2 || states > 8:
				checkSums(t, states, n, api.Tree{}, api.ErrArg)
			case n < 0 || n > last(states):
				checkSums(t, states, n, api.Tree{}, api.ErrRange)
			default:
				checkSums(t, states, n, sumTree(states, n), api.OK)
			}
		}
	}
	for states := 2; states <= api.MaxStates; states++ {
		if n := last(states); n < math.MaxInt {
			checkSums(t, states, n+1, api.Tree{}, api.ErrRange)
		}
		checkSums(t, states, -1, api.Tree{}, api.ErrRange)
	}
}

// P14.2, P14.3: all trees with two states of both kinds; those with the same new states are equal.
func TestRowsAgree(t *testing.T) {
	for n := range 16 {
		number := 0
		for i := range 8 {
			number |= n >> (i>>2 + i>>1&1 + i&1) & 1 << i
		}
		want, _ := totaltree.Elementary(number)
		checkSums(t, 2, n, want, api.OK)
	}
}

// P14.2, P14.3, and LANGUAGE.md, rule 7: the trees are new memory.
func TestRowsAreNew(t *testing.T) {
	for _, n := range []int{0, 30, 110, 255} {
		checkNewTree(t, func() (api.Tree, api.Errno) { return totaltree.Elementary(n) })
	}
	for states := 2; states <= api.MaxStates; states++ {
		for _, n := range []int{0, 6, last(states)} {
			checkNewTree(t, func() (api.Tree, api.Errno) { return totaltree.Sums(states, n) })
		}
	}
}
