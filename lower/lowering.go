package lower

import "cellular/api"

// parts is a circuit to which gates are added. Its methods return the wire of the last one.
type parts struct {
	api.Circuit
}

// gate adds a gate.
func (p *parts) gate(op, a, b int) int {
	p.Gates = append(p.Gates, api.Gate{Op: op, A: a, B: b})
	return p.Inputs + len(p.Gates) - 1
}

// chain adds the gates that combine at least one wire from the first one on. A single wire stands for itself.
func (p *parts) chain(op int, wires []int) int {
	last := wires[0]
	for _, wire := range wires[1:] {
		last = p.gate(op, last, wire)
	}
	return last
}

// either adds the gates that tell whether one of any number of wires is true.
func (p *parts) either(wires []int) int {
	if len(wires) == 0 {
		return p.gate(api.GateZero, 0, 0)
	}
	return p.chain(api.GateOr, wires)
}

// lowering is the circuit of a rule as far as it is built, with the wires that later gates have as operands.
type lowering struct {
	parts
	rule    api.Tree
	bits    int
	nots    []int   // for each input
	tests   [][]int // for each position and each state
	results [][]int // for each node and each bit
}

// circuitOf returns the circuit of a valid rule, whatever its number of gates is.
func circuitOf(t api.Tree) api.Circuit {
	l := lowering{rule: t, bits: Bits(t.States)}
	l.Inputs = len(t.Hood) * l.bits
	for input := range l.Inputs {
		l.nots = append(l.nots, l.gate(api.GateNot, input, 0))
	}
	for i := range t.Hood {
		l.tests = append(l.tests, collected(t.States, func(s int) int { return l.test(i, s) }))
	}
	for _, node := range t.Nodes {
		l.results = append(l.results, collected(l.bits, func(k int) int { return l.result(node, k) }))
	}
	l.Outs = l.results[len(l.results)-1]
	return l.Circuit
}

// collected returns the wires that a function returns for the numbers from 0 to n - 1, in this order.
func collected(n int, wire func(i int) int) []int {
	wires := make([]int, n)
	for i := range wires {
		wires[i] = wire(i)
	}
	return wires
}

// literal returns the wire that tells whether a bit of the state of a position is 1, or that which tells whether it is 0.
func (l *lowering) literal(i, k int, isOne bool) int {
	input := i*l.bits + k
	if isOne {
		return input
	}
	return l.nots[input]
}

// test adds the gates that tell whether a position has a state, and returns the wire that does.
func (l *lowering) test(i, s int) int {
	literals := collected(l.bits, func(k int) int { return l.literal(i, k, digit(s, k)) })
	return l.chain(api.GateAnd, literals)
}

// result adds the gates of a bit of the new state to which a node leads, and returns its wire.
func (l *lowering) result(node api.Node, k int) int {
	// The root, whose level is the greatest one, reads the first position.
	tests := l.tests[len(l.rule.Hood)-node.Level]
	var terms []int
	for s, next := range node.Next {
		switch {
		case node.Level > 1:
			terms = append(terms, l.gate(api.GateAnd, tests[s], l.results[next][k]))
		case digit(next, k):
			terms = append(terms, tests[s])
		}
	}
	return l.either(terms)
}
