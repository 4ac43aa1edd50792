package wolfram_test

import (
	"fmt"
	"math"
	"math/big"
	"regexp"
	"slices"
	"strconv"
	"strings"
	"testing"

	"cellular/api"
)

// The tests compare package wolfram with a model that writes numbers in the base of the number of states, with integers of any
// size, and matches notations by regular expressions.

// elementaryForm and totalisticForm are the two notations.
var (
	elementaryForm = regexp.MustCompile(`^W(0|[1-9][0-9]*)$`)
	totalisticForm = regexp.MustCompile(`^T(0|[1-9][0-9]*)/(0|[1-9][0-9]*)$`)
)

// maxInt is the greatest int.
var maxInt = big.NewInt(math.MaxInt)

// ints are numbers at the limits of int and of the numbers of elementary rules, and some that are small ones in 8 or 32 bits.
var ints = []int{
	math.MinInt, math.MinInt + 1, math.MinInt / 2, math.MinInt32 - 1, math.MinInt32, -1000, -258, -257, -256, -255, -254, -128, -30,
	-9, -8, -7, -3, -2, -1, 0, 1, 2, 3, 6, 7, 8, 9, 10, 254, 255, 256, 257, 258, 259, 264, 265, 286, 511, 512, 1000, math.MaxInt32 - 1,
	math.MaxInt32, math.MaxUint32, math.MaxUint32 + 1, math.MaxUint32 + 3, math.MaxUint32 + 31, math.MaxInt/2 + 1, math.MaxInt - 1,
	math.MaxInt,
}

// triples are the states of left, centre and right in an elementary rule, in the order in which its number is written in base 2.
var triples = strings.Fields("111 110 101 100 011 010 001 000")

// newStates returns the new states of an elementary rule, by the triples.
func newStates(n int) map[string]int {
	own := map[string]int{}
	for i, digit := range fmt.Sprintf("%08b", n) {
		own[triples[i]] = int(digit - '0')
	}
	return own
}

// numberOf inverts newStates.
func numberOf(own map[string]int) int {
	n := 0
	for _, triple := range triples {
		n = 2*n + own[triple]
	}
	return n
}

// elementaryModel returns what Elementary has to return, as a list in the reverse order of the triples.
func elementaryModel(n int) ([8]int, api.Errno) {
	var l [8]int
	if n < 0 || n > 255 {
		return l, api.ErrRange
	}
	own := newStates(n)
	for i, triple := range triples {
		l[7-i] = own[triple]
	}
	return l, api.OK
}

// numberModel returns what Number has to return.
func numberModel(l [8]int) (int, api.Errno) {
	own := map[string]int{}
	for i, triple := range triples {
		own[triple] = l[7-i]
		if l[7-i] < 0 || l[7-i] > 1 {
			return 0, api.ErrState
		}
	}
	return numberOf(own), api.OK
}

// mirrorModel returns what Mirror has to return.
func mirrorModel(n int) (int, api.Errno) {
	if n < 0 || n > 255 {
		return 0, api.ErrRange
	}
	old, own := newStates(n), map[string]int{}
	for _, triple := range triples {
		own[triple] = old[triple[2:]+triple[1:2]+triple[:1]]
	}
	return numberOf(own), api.OK
}

// conjugateModel returns what Conjugate has to return.
func conjugateModel(n int) (int, api.Errno) {
	if n < 0 || n > 255 {
		return 0, api.ErrRange
	}
	exchange := strings.NewReplacer("0", "1", "1", "0")
	old, own := newStates(n), map[string]int{}
	for _, triple := range triples {
		own[triple] = 1 - old[exchange.Replace(triple)]
	}
	return numberOf(own), api.OK
}

// length returns the number of sums of a number of states.
func length(states int) int {
	return len([...]string{2: "0123", 3: "0123456", 4: "0123456789", 5: "0123456789abc", 6: "0123456789abcdef",
		7: "0123456789abcdefghi", 8: "0123456789abcdefghijkl"}[states])
}

// isPossible reports whether a rule can have a number of states.
func isPossible(states int) bool {
	return slices.Contains([]int{2, 3, 4, 5, 6, 7, 8}, states)
}

// codes returns the number of the codes of a number of states, if ints are as large as one likes.
func codes(states int) *big.Int {
	return new(big.Int).Exp(big.NewInt(int64(states)), big.NewInt(int64(length(states))), nil)
}

// isCode reports whether a number of any size is a code.
func isCode(states int, n *big.Int) bool {
	return n.Sign() >= 0 && n.Cmp(codes(states)) < 0 && n.Cmp(maxInt) <= 0
}

// greatest returns the greatest code of a number of states.
func greatest(states int) int {
	last := new(big.Int).Sub(codes(states), big.NewInt(1))
	if last.Cmp(maxInt) > 0 {
		return math.MaxInt
	}
	return int(last.Int64())
}

// written returns the new states of a totalistic rule whose code may have any size.
func written(states int, n *big.Int) []int {
	l := make([]int, length(states))
	text := n.Text(states)
	for i, digit := range text {
		l[len(text)-1-i] = int(digit - '0')
	}
	return l
}

// valueOf inverts written.
func valueOf(states int, l []int) *big.Int {
	text := ""
	for _, state := range l {
		text = strconv.Itoa(state) + text
	}
	n, _ := new(big.Int).SetString(text, states)
	return n
}

// digitsModel returns what Digits has to return.
func digitsModel(states, n int) ([]int, api.Errno) {
	code := big.NewInt(int64(n))
	switch {
	case !isPossible(states):
		return nil, api.ErrArg
	case !isCode(states, code):
		return nil, api.ErrRange
	}
	return written(states, code), api.OK
}

// codeModel returns what Code has to return.
func codeModel(states int, l []int) (int, api.Errno) {
	if !isPossible(states) || len(l) != length(states) {
		return 0, api.ErrArg
	}
	if slices.Min(l) < 0 || slices.Max(l) > states-1 {
		return 0, api.ErrState
	}
	n := valueOf(states, l)
	if n.Cmp(maxInt) > 0 {
		return 0, api.ErrRange
	}
	return int(n.Int64()), api.OK
}

// parsed are the results of Parse.
type parsed struct {
	states, n int
	sum       bool
	e         api.Errno
}

// parseModel returns what Parse has to return.
func parseModel(s string) parsed {
	if found := elementaryForm.FindStringSubmatch(s); found != nil {
		n := anyNumber(found[1])
		if n.Cmp(big.NewInt(255)) > 0 {
			return parsed{e: api.ErrRange}
		}
		return parsed{states: 2, n: int(n.Int64())}
	}
	found := totalisticForm.FindStringSubmatch(s)
	if found == nil {
		return parsed{e: api.ErrSyntax}
	}
	n, states := anyNumber(found[1]), anyNumber(found[2])
	if !states.IsInt64() || !isPossible(int(states.Int64())) || !isCode(int(states.Int64()), n) {
		return parsed{e: api.ErrRange}
	}
	return parsed{states: int(states.Int64()), n: int(n.Int64()), sum: true}
}

// anyNumber returns the number that decimal digits stand for.
func anyNumber(digits string) *big.Int {
	n, _ := new(big.Int).SetString(digits, 10)
	return n
}

// someCodes returns codes of a number of states, from the first to the last one.
func someCodes(states int) []int {
	last := greatest(states)
	list := []int{0, 1, 2, 3, states - 1, states, states + 1, states*states - 1, states * states, last - 1, last}
	for n := last; n > 3; n = n / 7 * 2 {
		list = append(list, n-1, n, n/3, n/11*5)
	}
	for n := 1; n <= last/states; n *= states {
		list = append(list, n, n-1, n*states-1)
	}
	return slices.DeleteFunc(list, func(n int) bool { return n > last })
}

// laid returns a list in new memory, in which two elements follow it; a list that is nil remains so.
func laid(l []int) []int {
	if l == nil {
		return nil
	}
	longer := append(slices.Clone(l), 77, -77)
	return longer[: len(l) : len(l)+2]
}

// whole returns a list and what lies behind it in memory.
func whole(l []int) []int {
	return l[:cap(l)]
}

// spoil changes a list and what lies behind it in memory.
func spoil(l []int) {
	for i := range whole(l) {
		whole(l)[i] = -9
	}
}

// short returns the beginning of a list, for messages.
func short(l []int) []int {
	return l[:min(len(l), 100)]
}

// begin returns the beginning of a text, for messages.
func begin(s string) string {
	return s[:min(len(s), 100)]
}

// twice calls a test two times, as a result must not depend on the calls before.
func twice(t *testing.T, test func(t *testing.T)) {
	t.Helper()
	for range 2 {
		test(t)
	}
}
