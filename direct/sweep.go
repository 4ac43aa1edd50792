package direct

import "cellular/api"

// Positions have numbers in their order, row by row, up to the greatest radius beyond the valid ones: no cell of the next generation can be
// farther away. As each row has the same number of positions, an offset is a difference of numbers.
const (
	margin    = api.MaxCoord + api.MaxRadius
	width     = 2*margin + 1
	positions = width * width
)

// beyond is so great that it is not the number of a position even after an offset was subtracted.
const beyond = 2 * positions

// sweep visits the cells that have a cell of a pattern in their neighbourhood, in order, and finds their new states. Under a quiet rule all
// other cells remain 0.
type sweep struct {
	nodes   []api.Node
	cells   api.Pattern
	numbers []int // of the positions of the cells; the last element is beyond
	readers []reader
}

// reader reads the states at one offset of the neighbourhood. The cells that a sweep visits are in order, and so are the positions at this
// offset of them, so the reader passes the cells of the pattern once.
type reader struct {
	offset int
	index  int // the next cell of the pattern that is read
	at     int // the number of the position that has this cell at the offset
}

// advance returns the next generation of a valid pattern, for a quiet rule that has all its states.
func advance(t api.Tree, p api.Pattern) (api.Pattern, api.Errno) {
	s := newSweep(t, p)
	next := make(api.Pattern, 0, len(p))
	for at := s.first(); at < positions; {
		state, following := s.visit(at)
		if state != 0 {
			x, y := place(at)
			if !validPlace(x, y) {
				return nil, api.ErrRange
			}
			next = append(next, api.Cell{X: x, Y: y, S: state})
		}
		at = following
	}
	// This is examined last, as an invalid position comes first, wherever it is.
	if len(next) > api.MaxCells {
		return nil, api.ErrSize
	}
	return next, api.OK
}

// newSweep returns a sweep that has visited no cell.
func newSweep(t api.Tree, p api.Pattern) sweep {
	s := sweep{nodes: t.Nodes, cells: p, numbers: make([]int, 0, len(p)+1), readers: make([]reader, 0, len(t.Hood))}
	for _, c := range p {
		s.numbers = append(s.numbers, number(c.X, c.Y))
	}
	s.numbers = append(s.numbers, beyond)
	for _, d := range t.Hood {
		offset := d.Y*width + d.X
		s.readers = append(s.readers, reader{offset: offset, at: s.numbers[0] - offset})
	}
	return s
}

// first returns the number of the first position that is visited.
func (s *sweep) first() int {
	at := beyond
	for _, r := range s.readers {
		at = min(at, r.at)
	}
	return at
}

// visit returns the new state of the cell at a position, and the number of the position that is visited next.
func (s *sweep) visit(at int) (int, int) {
	nodes, readers := s.nodes, s.readers
	following := beyond
	// Each state leads one level down, so the last element is not an index any more, but the new state.
	element := len(nodes) - 1
	for i := range readers {
		r := &readers[i]
		state := 0
		if r.at == at {
			state = s.cells[r.index].S
			r.index++
			r.at = s.numbers[r.index] - r.offset
		}
		following = min(following, r.at)
		element = nodes[element].Next[state]
	}
	return element, following
}

// number returns the number of a position.
func number(x, y int) int {
	return (y+margin)*width + x + margin
}

// place returns the position with a number.
func place(n int) (int, int) {
	return n%width - margin, n/width - margin
}
