package reduce_test

import (
	"math/rand"
	"testing"

	"cellular/api"
	"cellular/reduce"
	"cellular/tree"
)

// checkValues compares Eval of a result with the expected new states, for all states of its neighbourhood.
func checkValues(t *testing.T, got api.Tree, e api.Errno, want func(in []int) int) {
	t.Helper()
	if e != api.OK || got.States == 0 {
		t.Fatalf("the error is %d", e)
	}
	for _, in := range everyState(got.States, len(got.Hood)) {
		if s, e := tree.Eval(got, in); s != want(in) || e != api.OK {
			t.Fatalf("Eval of %s for %v is %d with the error %d, not %d", show(got), in, s, e, want(in))
		}
	}
}

// P13.7: tree.Eval of all results is as their promises say.
func TestValues(t *testing.T) {
	rng := rand.New(rand.NewSource(731))
	for _, drawing := range tiny {
		l := drawn(drawing)
		for _, states := range []int{2, 3, 5, 8} {
			own, by := randomTree(rng, states, l, rng.Intn(30)), randomTree(rng, states, l, rng.Intn(30))
			checkValues(t, reduce.Reduce(own), api.OK, func(in []int) int { return followed(own, in) })
			to := randomList(rng, states, states)
			got, e := reduce.Map(own, to)
			checkValues(t, got, e, func(in []int) int { return to[followed(own, in)] })
			for k := range l {
				s := rng.Intn(states)
				got, e := reduce.Fix(own, k, s)
				checkValues(t, got, e, func(in []int) int { return fixed(following(own), k, s).value(in) })
			}
			var list []api.Tree
			for range states {
				list = append(list, randomTree(rng, states, l, rng.Intn(30)))
			}
			got, e = reduce.Choose(by, list)
			checkValues(t, got, e, func(in []int) int { return followed(list[followed(by, in)], in) })
			for k := range 8 {
				got, e := reduce.Turn(k, own)
				_, at := imagesOf(k, l)
				checkValues(t, got, e, func(in []int) int {
					old := make([]int, len(in))
					for i := range old {
						old[i] = in[at[i]]
					}
					return followed(own, old)
				})
			}
		}
	}
}
