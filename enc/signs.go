package enc

import (
	"slices"

	"skolem/api"
)

// signs are those with which a variable occurs: two bits, or 0 if it does not occur.
type signs uint8

const (
	positive signs = 1 << iota
	negative
)

// opposite returns the other sign for each one.
func (s signs) opposite() signs { return s>>1 | s&positive<<1 }

// way returns the way of the clauses that the gate of a variable needs, which occurs.
func (s signs) way() int {
	switch s {
	case positive:
		return 1
	case negative:
		return -1
	}
	return 0
}

// table has the signs of all variables.
type table [api.MaxVar + 1]signs

// add makes a literal occur with some signs, and so its variable with these or their opposites.
func (t *table) add(lit int, s signs) {
	if lit < 0 {
		lit, s = -lit, s.opposite()
	}
	t[lit] |= s
}

// occurring returns the signs with which the variables of a valid net occur. A gate uses only gates before it, so one pass from the last gate to the first finds them all.
func occurring(n api.Net) *table {
	t := &table{}
	t.add(n.Out, positive)
	for _, g := range slices.Backward(n.Gates) {
		s := t[g.Var]
		if s == 0 {
			continue
		}
		for i, lit := range g.In {
			if g.Kind == api.GateXor || g.Kind == api.GateIte && i == 0 {
				t.add(lit, positive|negative)
			} else {
				t.add(lit, s)
			}
		}
	}
	return t
}
