package circ

import (
	"slices"

	"skolem/api"
)

// variable returns the variable of a literal. That of another number is none either: -2^63 stays negative.
func variable(lit int) int { return max(lit, -lit) }

// enter puts a variable into a set; false: the number is no variable, or is there already.
func enter(set map[int]bool, v int) bool {
	if v < 1 || v > api.MaxVar || set[v] {
		return false
	}
	set[v] = true
	return true
}

// areOf reports whether all numbers are literals of variables in a set.
func areOf(lits []int, set map[int]bool) bool {
	return !slices.ContainsFunc(lits, func(lit int) bool { return !set[variable(lit)] })
}

// normal reports whether a list of literals is normal.
func normal(a []int) bool {
	before := 0
	for _, lit := range a {
		v := variable(lit)
		if v <= before || v > api.MaxVar {
			return false
		}
		before = v
	}
	return true
}

// quantified returns the variables of a prefix; false: it is not valid.
func quantified(p []api.Block) (map[int]bool, bool) {
	set := map[int]bool{}
	for i, b := range p {
		if len(b.Vars) == 0 || i > 0 && b.Exists == p[i-1].Exists {
			return nil, false
		}
		for _, v := range b.Vars {
			if !enter(set, v) || len(set) > api.MaxQuant {
				return nil, false
			}
		}
	}
	return set, true
}

// fits reports whether a gate has a kind, and as many literals as that asks for.
func fits(g api.Gate) bool {
	switch g.Kind {
	case api.GateAnd, api.GateOr:
		return true
	case api.GateXor:
		return len(g.In) == 2
	case api.GateIte:
		return len(g.In) == 3
	}
	return false
}

// named returns the variables of the prefix and of the gates of a net; false: it is not valid.
func named(n api.Net) (map[int]bool, bool) {
	set, ok := quantified(n.Prefix)
	if !ok {
		return nil, false
	}
	total := 0
	for _, g := range n.Gates {
		total += len(g.In)
		if total > api.MaxLits || !fits(g) || !areOf(g.In, set) || !enter(set, g.Var) {
			return nil, false
		}
	}
	return set, set[variable(n.Out)]
}

// May reports whether a net is valid.
func May(n api.Net) bool {
	_, ok := named(n)
	return ok
}
