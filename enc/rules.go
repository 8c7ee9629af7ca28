package enc

import (
	"cmp"
	"slices"

	"skolem/api"
)

// rules make, by the kind of a gate, the clauses of its variable x and its literals: those that are needed where x occurs positive, and those where it occurs negative. They need not be normal yet.
type rules map[api.GateKind]func(x int, in []int) (plus, minus [][]int)

func newRules() rules {
	and := func(x int, in []int) (plus, minus [][]int) {
		for _, lit := range in {
			plus = append(plus, []int{-x, lit})
		}
		return plus, [][]int{append(negatives(in), x)}
	}
	return rules{
		api.GateAnd: and,
		api.GateOr: func(x int, in []int) (plus, minus [][]int) { // -x is the and of the negatives
			minus, plus = and(-x, negatives(in))
			return plus, minus
		},
		api.GateXor: func(x int, in []int) (plus, minus [][]int) {
			a, b := in[0], in[1]
			return [][]int{{-x, a, b}, {-x, -a, -b}}, [][]int{{x, -a, b}, {x, a, -b}}
		},
		api.GateIte: func(x int, in []int) (plus, minus [][]int) {
			c, a, b := in[0], in[1], in[2]
			return [][]int{{-x, -c, a}, {-x, c, b}}, [][]int{{x, -c, -a}, {x, c, -b}}
		},
	}
}

// clauses returns the clauses of a gate: all of them for the way 0, those that are needed for one sign for 1 and -1.
func (r rules) clauses(g api.Gate, way int) [][]int {
	plus, minus := r[g.Kind](g.Var, g.In)
	switch way {
	case 1:
		minus = nil
	case -1:
		plus = nil
	}
	var out [][]int
	for _, lits := range slices.Concat(plus, minus) {
		if c, ok := clause(lits); ok {
			out = append(out, c)
		}
	}
	return out
}

// clause makes a normal list of literals, in their memory; false: there are a literal and its negative among them.
func clause(lits []int) ([]int, bool) {
	slices.SortFunc(lits, func(a, b int) int { return cmp.Or(variable(a)-variable(b), a-b) })
	lits = slices.Compact(lits)
	for i := 1; i < len(lits); i++ {
		if lits[i] == -lits[i-1] {
			return nil, false
		}
	}
	return lits, true
}

// variable returns the variable of a literal. That of another number is none either: -2^63 stays negative.
func variable(lit int) int { return max(lit, -lit) }

// variables returns the variables of literals, each once, ascending.
func variables(lits []int) []int {
	var vars []int
	for _, lit := range lits {
		vars = append(vars, variable(lit))
	}
	slices.Sort(vars)
	return slices.Compact(vars)
}

// negatives returns the negatives of literals, in their order.
func negatives(lits []int) []int {
	var out []int
	for _, lit := range lits {
		out = append(out, -lit)
	}
	return out
}
