package notation_test

import (
	"fmt"
	"regexp"
	"slices"
	"strings"
	"testing"

	"cellular/api"
	"cellular/generations"
	"cellular/lifelike"
	"cellular/notation"
	"cellular/ruletable"
	"cellular/tabletree"
	"cellular/totaltree"
	"cellular/tree"
	"cellular/wolfram"
)

// The tests compare package notation with a model that tells the kinds of texts by regular expressions, makes the calls that the chapter
// names for each kind, and finds the symmetries of a tree in the list of its new states for all states of the neighbourhood.

const (
	ascending = `0?1?2?3?4?5?6?7?8?9?`
	letter    = `[VH]?`
	number    = `(0|[1-9][0-9]*)`
)

// forms are the forms of the kinds 1 to 5.
var forms = []*regexp.Regexp{
	regexp.MustCompile(`^B` + ascending + `/S` + ascending + letter + `$`),
	regexp.MustCompile(`^(B` + ascending + `/S` + ascending + `/C|` + ascending + `/` + ascending + `/)[1-9][0-9]{0,2}` + letter + `$`),
	regexp.MustCompile(`^W` + number + `$`),
	regexp.MustCompile(`^T` + number + `/` + number + `$`),
	regexp.MustCompile(`\n`),
}

// formsOf returns the kinds of which a text has the form.
func formsOf(s string) []int {
	var kinds []int
	for i, form := range forms {
		if form.MatchString(s) {
			kinds = append(kinds, i+1)
		}
	}
	return kinds
}

// calledForms returns the kinds of which a text has the form, as the packages of the notations tell.
func calledForms(s string) []int {
	var kinds []int
	if _, e := lifelike.Parse(s); e != api.ErrSyntax {
		kinds = append(kinds, 1)
	}
	if _, e := generations.Parse(s); e != api.ErrSyntax {
		kinds = append(kinds, 2)
	}
	_, _, _, e := wolfram.Parse(s)
	if e != api.ErrSyntax && s[0] == 'W' {
		kinds = append(kinds, 3)
	}
	if e != api.ErrSyntax && s[0] == 'T' {
		kinds = append(kinds, 4)
	}
	if strings.ContainsRune(s, '\n') {
		kinds = append(kinds, 5)
	}
	return kinds
}

// reading is what is known of a text: its kind, its tree and its canonical text, each with an error.
type reading struct {
	kind      int
	own       api.Tree
	treeError api.Errno
	canon     string
	textError api.Errno
}

// readModel returns what Kind, Parse and Canon have to return.
func readModel(s string) reading {
	kinds := formsOf(s)
	if len(kinds) == 0 {
		return reading{treeError: api.ErrName, textError: api.ErrName}
	}
	r := reading{kind: kinds[0]}
	switch r.kind {
	case 1:
		x, e := lifelike.Parse(s)
		r.canon, r.textError = lifelike.Text(x), e
		r.own, r.treeError = totaltree.Totals(x)
	case 2:
		x, e := generations.Parse(s)
		r.canon, r.textError = generations.Text(x), e
		r.own, r.treeError = totaltree.Totals(x)
	case 3:
		_, n, _, e := wolfram.Parse(s)
		r.canon, r.textError = s, e
		r.own, r.treeError = totaltree.Elementary(n)
	case 4:
		states, n, _, e := wolfram.Parse(s)
		r.canon, r.textError = s, e
		r.own, r.treeError = totaltree.Sums(states, n)
	case 5:
		x, _, e := ruletable.Parse(s)
		r.canon, r.textError = ruletable.Text(x), e
		r.own, r.treeError = tabletree.Tree(x)
	}
	if r.textError != api.OK {
		return reading{kind: r.kind, treeError: r.textError, textError: r.textError}
	}
	return r
}

// checkReading compares Kind, Parse and Canon with what is expected, and checks that no text has two forms.
func checkReading(t *testing.T, s string, want reading) {
	t.Helper()
	kinds := formsOf(s)
	if !slices.Equal(kinds, calledForms(s)) || len(kinds) > 1 {
		t.Errorf("%s has the forms %v, or %v by the packages", quote(s), kinds, calledForms(s))
	}
	got := reading{kind: notation.Kind(s)}
	got.own, got.treeError = notation.Parse(s)
	got.canon, got.textError = notation.Canon(s)
	if got.kind != want.kind {
		t.Errorf("Kind(%s) is %d, not %d", quote(s), got.kind, want.kind)
	}
	checkTree(t, got.own, got.treeError, want.own, want.treeError, "Parse("+quote(s)+")")
	if got.canon != want.canon || got.textError != want.textError {
		t.Errorf("Canon(%s) is %s with the error %d, not %s with %d", quote(s), quote(got.canon), got.textError, quote(want.canon), want.textError)
	}
}

// checkText compares Kind, Parse and Canon with the model, for a text and for its canonical text.
func checkText(t *testing.T, s string) {
	t.Helper()
	want := readModel(s)
	checkReading(t, s, want)
	if want.textError == api.OK {
		// P16.5: the canonical text has the same kind, tree and canonical text.
		checkReading(t, want.canon, want)
	}
}

// checkError checks the kind of a text, and that Parse and Canon return an error and no values.
func checkError(t *testing.T, s string, kind int, e api.Errno) {
	t.Helper()
	checkReading(t, s, reading{kind: kind, treeError: e, textError: e})
}

// checkTree compares a tree and an error with the expected ones.
func checkTree(t *testing.T, got api.Tree, e api.Errno, want api.Tree, wanted api.Errno, call string) {
	t.Helper()
	if !tree.Same(got, want) || e != wanted {
		t.Errorf("%s is %s with the error %d, not %s with %d", call, show(got), e, show(want), wanted)
	}
}

// quote returns the beginning of a text, in quotation marks, for messages.
func quote(s string) string {
	return fmt.Sprintf("%.300q", s)
}

// show returns the beginning of what a tree contains, for messages.
func show(t api.Tree) string {
	t.Hood = t.Hood[:min(len(t.Hood), 30)]
	t.Nodes = t.Nodes[:min(len(t.Nodes), 40)]
	return fmt.Sprintf("%.600s", fmt.Sprintf("%+v", t))
}

// lines returns a text with lines, each of which ends with a line feed.
func lines(l ...string) string {
	return strings.Join(l, "\n") + "\n"
}

// Drawings of neighbourhoods.
const (
	single  = "o"
	left    = "... oo. ..."
	pair    = "... o.o ..."
	line    = "... ooo ..."
	column  = ".o. .o. .o."
	slope   = "o.. .o. ..o"
	corner  = "... .oo .o."
	neumann = ".o. ooo .o."
	corners = "o.o .o. o.o"
	hex     = "oo. ooo .oo"
	moore   = "ooo ooo ooo"
	swirl   = ".o... ....o ..o.. o.... ...o." // rotations map it to itself, and reflections do not
	square  = "ooooo ooooo ooooo ooooo ooooo"
)

// usual are the neighbourhoods of rules by counts, by their letters.
var usual = map[string]string{"": moore, "V": neumann, "H": hex}

// drawn returns the offsets of a drawing, in whose middle is the centre.
func drawn(drawing string) []api.Point {
	var l []api.Point
	rows := strings.Fields(drawing)
	for y, row := range rows {
		for x, c := range row {
			if c == 'o' {
				l = append(l, api.Point{X: x - len(rows)/2, Y: y - len(rows)/2})
			}
		}
	}
	return l
}

// node returns a node with a level and elements.
func node(level int, next ...int) api.Node {
	return api.Node{Level: level, Next: next}
}

// made returns a tree with nodes.
func made(states int, drawing string, nodes ...api.Node) api.Tree {
	return api.Tree{States: states, Hood: drawn(drawing), Nodes: nodes}
}

// everyState returns all lists of n states, in ascending order.
func everyState(states, n int) [][]int {
	all := [][]int{{}}
	for range n {
		longer := make([][]int, 0, len(all)*states)
		for _, l := range all {
			for s := range states {
				longer = append(longer, append(slices.Clone(l), s))
			}
		}
		all = longer
	}
	return all
}

// spread returns the valid tree that leads to what a function returns and has a node for each list of the first states, level by level: so
// most of its nodes are equal, and they are not in the order of a walk.
func spread(states int, l []api.Point, value func(in []int) int) api.Tree {
	t := api.Tree{States: states, Hood: slices.Clone(l)}
	var below []int
	for _, in := range everyState(states, len(l)) {
		below = append(below, value(in))
	}
	for level := range l {
		var own []int
		for next := range slices.Chunk(below, states) {
			own = append(own, len(t.Nodes))
			t.Nodes = append(t.Nodes, node(level+1, slices.Clone(next)...))
		}
		below = own
	}
	return t
}

// followed returns the new state of a valid tree for the states of its neighbourhood.
func followed(t api.Tree, in []int) int {
	n := len(t.Nodes) - 1
	for _, s := range in {
		n = t.Nodes[n].Next[s]
	}
	return n
}

// fill sets all elements of a list and those that its memory has behind them.
func fill[E any](l []E, e E) {
	l = l[:cap(l)]
	for i := range l {
		l[i] = e
	}
}

// laid returns a list in new memory, in which two elements follow it; a list that is nil remains so.
func laid[E any](l []E, behind E) []E {
	if l == nil {
		return nil
	}
	longer := append(slices.Clone(l), behind, behind)
	return longer[: len(l) : len(l)+2]
}

// laidOut returns a tree whose lists, at each depth, are new memory that goes on behind them.
func laidOut(t api.Tree) api.Tree {
	t.Hood = laid(t.Hood, api.Point{X: 77, Y: -77})
	t.Nodes = laid(t.Nodes, node(77, -77))
	for i := range t.Nodes {
		t.Nodes[i].Next = laid(t.Nodes[i].Next, 77)
	}
	return t
}

// whole returns a tree whose lists, at each depth, contain what lies behind them in memory.
func whole(t api.Tree) api.Tree {
	t.Hood = t.Hood[:cap(t.Hood)]
	t.Nodes = slices.Clone(t.Nodes[:cap(t.Nodes)])
	for i := range t.Nodes {
		t.Nodes[i].Next = t.Nodes[i].Next[:cap(t.Nodes[i].Next)]
	}
	return t
}
