package ruletable

import (
	"iter"
	"slices"
	"strconv"
	"strings"

	"cellular/api"
	"cellular/hood"
)

const (
	firstLines = 3         // the number of lines that every text has
	maxNumber  = 999999999 // the greatest number in a text
	maxName    = 20        // the greatest number of bytes of a name
	blanks     = " \t"
	variable   = "var" // the first word of the line of a variable, and no name
	arrow      = "->"  // the word ahead of the new state of a row
)

// hoodNames are the names of the neighbourhoods that have one.
var hoodNames = [4]string{"moore", "neumann", "hex", "line"}

// symNames are the names of the kinds of symmetries.
var symNames = [4]string{api.SymNone: "none", api.SymRotate: "rotate", api.SymReflect: "reflect", api.SymPermute: "permute"}

// reader holds what the lines of a text have told so far.
type reader struct {
	lines int // the number of lines with words
	table api.Table
	names []string // those of the variables
}

// Parse reads a rule table; with an error it returns the line.
func Parse(s string) (api.Table, int, api.Errno) {
	if len(s) > api.MaxBytes {
		return api.Table{}, 0, api.ErrSize
	}
	var r reader
	for i, line := range strings.Split(s, "\n") {
		if e := r.read(line); e != api.OK {
			return api.Table{}, i + 1, e
		}
	}
	if r.lines < firstLines {
		return api.Table{}, 0, api.ErrShort
	}
	return r.table, 0, api.OK
}

// Text returns the text of a rule table.
func Text(t api.Table) string {
	name, named := nameOf(t.Hood)
	if !named || !Right(t) {
		return ""
	}
	lines := []string{"states " + strconv.Itoa(t.States), "hood " + name, "symmetry " + symNames[t.Sym]}
	for v, states := range t.Vars {
		lines = append(lines, variable+" "+element(-1-v)+" "+elements(states))
	}
	for _, row := range t.Rows {
		lines = append(lines, elements(row.Ins)+" "+arrow+" "+element(row.Out))
	}
	return strings.Join(lines, "\n") + "\n"
}

// read reads a line.
func (r *reader) read(line string) api.Errno {
	var l []string
	for word := range words(line) {
		l = append(l, word)
	}
	if len(l) == 0 {
		return api.OK
	}
	r.lines++
	switch {
	case r.lines == 1:
		return r.readStates(l)
	case r.lines == 2:
		return r.readHood(l)
	case r.lines == firstLines:
		return r.readSymmetry(l)
	case l[0] == variable:
		return r.readVariable(l)
	}
	return r.readRow(l)
}

// readStates reads the line of the number of states.
func (r *reader) readStates(l []string) api.Errno {
	if len(l) != 2 || l[0] != "states" {
		return api.ErrSyntax
	}
	n, is := number(l[1])
	switch {
	case !is:
		return api.ErrSyntax
	case n < leastStates || n > api.MaxStates:
		return api.ErrRange
	}
	r.table.States = n
	return api.OK
}

// readHood reads the line of the neighbourhood.
func (r *reader) readHood(l []string) api.Errno {
	if len(l) != 2 || l[0] != "hood" {
		return api.ErrSyntax
	}
	r.table.Hood = offsets(l[1])
	if r.table.Hood == nil {
		return api.ErrName
	}
	return api.OK
}

// readSymmetry reads the line of the kind of symmetry.
func (r *reader) readSymmetry(l []string) api.Errno {
	if len(l) != 2 || l[0] != "symmetry" {
		return api.ErrSyntax
	}
	for sym, name := range symNames {
		if name != l[1] {
			continue
		}
		if !permits(r.table.Hood, sym) {
			return api.ErrArg
		}
		r.table.Sym = sym
		return api.OK
	}
	return api.ErrName
}

// readVariable reads the line of a variable.
func (r *reader) readVariable(l []string) api.Errno {
	if len(r.table.Rows) > 0 {
		return api.ErrOrder
	}
	if len(l) < 3 || !isName(l[1]) {
		return api.ErrSyntax
	}
	states := make([]int, 0, len(l)-2)
	for _, word := range l[2:] {
		n, is := number(word)
		if !is {
			return api.ErrSyntax
		}
		states = append(states, n)
	}
	switch {
	case slices.Contains(r.names, l[1]):
		return api.ErrTwice
	case !allStates(r.table.States, states):
		return api.ErrRange
	case !ascends(states):
		return api.ErrOrder
	case len(r.names) == api.MaxVars:
		return api.ErrSize
	}
	r.names = append(r.names, l[1])
	r.table.Vars = append(r.table.Vars, states)
	return api.OK
}

// readRow reads the line of a row.
func (r *reader) readRow(l []string) api.Errno {
	n := len(r.table.Hood)
	if len(l) != n+2 || l[n] != arrow {
		return api.ErrSyntax
	}
	ins := make([]int, 0, n)
	for _, word := range l[:n] {
		value, e := r.value(word)
		if e != api.OK {
			return e
		}
		ins = append(ins, value)
	}
	out, e := r.value(l[n+1])
	switch {
	case e != api.OK:
		return e
	case out < 0 && !slices.Contains(ins, out):
		return api.ErrArg
	case len(r.table.Rows) == api.MaxRows:
		return api.ErrSize
	}
	r.table.Rows = append(r.table.Rows, api.Row{Ins: ins, Out: out})
	return api.OK
}

// value returns the element, or the new state, that a word of a row stands for.
func (r *reader) value(word string) (int, api.Errno) {
	n, is := number(word)
	switch {
	case is && n < r.table.States:
		return n, api.OK
	case is:
		return 0, api.ErrRange
	case !isName(word):
		return 0, api.ErrSyntax
	}
	v := slices.Index(r.names, word)
	if v < 0 {
		return 0, api.ErrName
	}
	return -1 - v, api.OK
}

// words yields the words of a line, without its comment.
func words(line string) iter.Seq[string] {
	return func(yield func(word string) bool) {
		text, _, _ := strings.Cut(line, "#")
		rest := strings.TrimLeft(text, blanks)
		for rest != "" {
			word := rest
			if end := strings.IndexAny(rest, blanks); end >= 0 {
				word = rest[:end]
			}
			if !yield(word) {
				return
			}
			rest = strings.TrimLeft(rest[len(word):], blanks)
		}
	}
}

// number returns the number that a word stands for, and whether it stands for one.
func number(word string) (int, bool) {
	n, err := strconv.Atoi(word)
	// Atoi also accepts signs and leading zeros, which make a text different from that of the number.
	return n, err == nil && n >= 0 && n <= maxNumber && word == strconv.Itoa(n)
}

// isName reports whether a word may be the name of a variable.
func isName(word string) bool {
	if word == variable || len(word) > maxName || !isLetter(word[0]) {
		return false
	}
	for i := range len(word) {
		if !isLetter(word[i]) && (word[i] < '0' || word[i] > '9') {
			return false
		}
	}
	return true
}

// isLetter reports whether a byte is a letter.
func isLetter(c byte) bool {
	return c >= 'a' && c <= 'z' || c >= 'A' && c <= 'Z'
}

// offsets returns the neighbourhood with a name; none if there is no such name.
func offsets(name string) []api.Point {
	switch name {
	case "moore":
		return hood.Moore(1)
	case "neumann":
		return hood.Neumann(1)
	case "hex":
		return hood.Hex()
	case "line":
		return []api.Point{{X: -1}, {}, {X: 1}}
	}
	return nil
}

// nameOf returns the name of a neighbourhood, and whether it has one.
func nameOf(l []api.Point) (string, bool) {
	for _, name := range hoodNames {
		if hood.Same(offsets(name), l) {
			return name, true
		}
	}
	return "", false
}

// element returns the text of an element of a row, or of its new state.
func element(e int) string {
	if e < 0 {
		return "v" + strconv.Itoa(-1-e)
	}
	return strconv.Itoa(e)
}

// elements returns the texts of elements, with spaces between them.
func elements(l []int) string {
	texts := make([]string, 0, len(l))
	for _, e := range l {
		texts = append(texts, element(e))
	}
	return strings.Join(texts, " ")
}
