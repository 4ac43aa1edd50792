package optimize

import "cellular/api"

// fold replaces gates with constant, equal or opposite operands.
func (w *work) fold() {
	w.process(func(gate api.Gate) (api.Gate, int) {
		switch gate.Op {
		case api.GateNot:
			return w.foldNot(gate.A)
		case api.GateAnd:
			return w.foldPair(gate, api.GateZero, api.GateOne)
		case api.GateOr:
			return w.foldPair(gate, api.GateOne, api.GateZero)
		case api.GateXor:
			return w.foldXor(gate)
		}
		return w.kept(gate)
	})
}

// foldNot folds the gate GateNot of a wire.
func (w *work) foldNot(a int) (api.Gate, int) {
	gate := api.Gate{Op: api.GateNot, A: a}
	switch {
	case w.is(a, api.GateZero):
		return w.kept(api.Gate{Op: api.GateOne})
	case w.is(a, api.GateOne):
		return w.kept(api.Gate{Op: api.GateZero})
	case w.is(a, api.GateNot):
		return gate, w.gateOf(a).A
	}
	return w.kept(gate)
}

// foldPair folds a gate GateAnd or GateOr. One constant decides the result whatever the other operand is, the other constant leaves it.
func (w *work) foldPair(gate api.Gate, deciding, leaving int) (api.Gate, int) {
	a, b := gate.A, gate.B
	switch {
	case w.is(a, deciding) || w.is(b, deciding):
		return w.kept(api.Gate{Op: deciding})
	case w.is(a, leaving):
		return gate, b
	case w.is(b, leaving) || a == b:
		return gate, a
	case w.areOpposites(a, b):
		return w.kept(api.Gate{Op: deciding})
	}
	return w.kept(gate)
}

// foldXor folds a gate GateXor.
func (w *work) foldXor(gate api.Gate) (api.Gate, int) {
	a, b := gate.A, gate.B
	switch {
	case w.is(a, api.GateZero):
		return gate, b
	case w.is(b, api.GateZero):
		return gate, a
	case a == b:
		return w.kept(api.Gate{Op: api.GateZero})
	case w.areOpposites(a, b):
		return w.kept(api.Gate{Op: api.GateOne})
	case w.is(a, api.GateOne):
		return w.foldNot(b)
	case w.is(b, api.GateOne):
		return w.foldNot(a)
	}
	return w.kept(gate)
}

// is reports whether a wire is that of a gate with an operation.
func (w *work) is(wire, op int) bool {
	return wire >= w.Inputs && w.gateOf(wire).Op == op
}

// gateOf returns the gate of a wire that is not an input.
func (w *work) gateOf(wire int) api.Gate {
	return w.Gates[wire-w.Inputs]
}

// areOpposites reports whether one of two wires is the opposite of the other one.
func (w *work) areOpposites(a, b int) bool {
	return w.negates(a, b) || w.negates(b, a)
}

// negates reports whether a wire is that of a gate GateNot of another wire.
func (w *work) negates(a, b int) bool {
	return w.is(a, api.GateNot) && w.gateOf(a).A == b
}
