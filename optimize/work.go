package optimize

import (
	"slices"

	"cellular/api"
	"cellular/circuit"
)

// work is a circuit that is optimized in place.
type work struct {
	api.Circuit
	// wires has the wires that stand for those of the inputs and of the gates that were processed, so its length is the next gate's own wire.
	wires []int
	// firsts has the wires of the first ones of equal gates, while gates are shared.
	firsts map[api.Gate]int
}

// workOn returns a copy of a circuit, or the zero circuit, which no optimization changes, if the circuit is not valid.
func workOn(c api.Circuit) *work {
	w := &work{firsts: map[api.Gate]int{}}
	if circuit.Right(c) {
		w.Circuit = copyOf(c)
	}
	return w
}

// copyOf returns a circuit in new memory.
func copyOf(c api.Circuit) api.Circuit {
	return api.Circuit{Inputs: c.Inputs, Gates: slices.Clone(c.Gates), Outs: slices.Clone(c.Outs)}
}

// all folds, shares and trims until this does not change the circuit.
func (w *work) all() {
	for {
		before := copyOf(w.Circuit)
		w.fold()
		w.share()
		w.trim()
		// There is a last round: if none of the gates is removed, some have only become simpler ones, or got their operands in order.
		if circuit.Same(w.Circuit, before) {
			return
		}
	}
}

// process lets a function rewrite the gates in order. It is given a gate with its operands replaced, and returns what stays in its place, and
// the wire that stands for the wire of the gate from then on.
func (w *work) process(rewrite func(gate api.Gate) (api.Gate, int)) {
	w.begin()
	for i, gate := range w.Gates {
		own, wire := rewrite(w.moved(gate))
		w.Gates[i] = own
		w.wires = append(w.wires, wire)
	}
	w.moveOuts()
}

// begin lets each input stand for itself, and removes the wires that stand for gates.
func (w *work) begin() {
	w.wires = w.wires[:0]
	for i := range w.Inputs {
		w.wires = append(w.wires, i)
	}
}

// moved returns a gate with the wires that stand for its operands.
func (w *work) moved(gate api.Gate) api.Gate {
	switch gate.Op {
	case api.GateAnd, api.GateOr, api.GateXor:
		gate.B = w.wires[gate.B]
		fallthrough
	case api.GateNot:
		gate.A = w.wires[gate.A]
	}
	return gate
}

// moveOuts puts in place of the outputs the wires that stand for them.
func (w *work) moveOuts() {
	for i, wire := range w.Outs {
		w.Outs[i] = w.wires[wire]
	}
}

// kept returns what stays in the place of the next gate, and the gate's own wire, which is not replaced.
func (w *work) kept(gate api.Gate) (api.Gate, int) {
	return gate, len(w.wires)
}

// share replaces equal gates by the first one.
func (w *work) share() {
	clear(w.firsts)
	w.process(func(gate api.Gate) (api.Gate, int) {
		gate = ordered(gate)
		if wire, isTwice := w.firsts[gate]; isTwice {
			return gate, wire
		}
		w.firsts[gate] = len(w.wires)
		return w.kept(gate)
	})
}

// ordered returns a gate with its operands in ascending order, if it has two of them.
func ordered(gate api.Gate) api.Gate {
	switch gate.Op {
	case api.GateAnd, api.GateOr, api.GateXor:
		gate.A, gate.B = min(gate.A, gate.B), max(gate.A, gate.B)
	}
	return gate
}

// trim removes the gates that no output needs.
func (w *work) trim() {
	isNeeded := w.needed()
	w.begin()
	rest := w.Gates[:0]
	for i, gate := range w.Gates {
		// Nothing looks up the wire of a removed gate, in whose place that of the next one stands.
		w.wires = append(w.wires, w.Inputs+len(rest))
		if isNeeded[w.Inputs+i] {
			rest = append(rest, w.moved(gate))
		}
	}
	w.Gates = rest
	w.moveOuts()
}

// needed reports for each wire whether an output needs it.
func (w *work) needed() []bool {
	isNeeded := make([]bool, w.Inputs+len(w.Gates))
	for _, wire := range w.Outs {
		isNeeded[wire] = true
	}
	// Only later gates need a gate, so those that do are known when it is reached.
	for i := len(w.Gates) - 1; i >= 0; i-- {
		if !isNeeded[w.Inputs+i] {
			continue
		}
		switch gate := w.Gates[i]; gate.Op {
		case api.GateAnd, api.GateOr, api.GateXor:
			isNeeded[gate.B] = true
			fallthrough
		case api.GateNot:
			isNeeded[gate.A] = true
		}
	}
	return isNeeded
}
