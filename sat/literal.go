package sat

import (
	"slices"

	"skolem/lits"
)

// literal is a literal as an index: 2 n for the variable number n of a question, 2 n + 1 for its negation.
type literal int32

func (x literal) variable() int { return int(x >> 1) }

func (x literal) negation() literal { return x ^ 1 }

func (x literal) isNegative() bool { return x&1 == 1 }

// names are the variables of a question, ascending. The search uses their numbers, so that its memory depends on how many there are, not on how great.
type names []int

// code returns a literal as an index.
func (n names) code(lit int) literal {
	i, _ := slices.BinarySearch(n, lits.Var(lit))
	if lit < 0 {
		return literal(2*i + 1)
	}
	return literal(2 * i)
}

// codes returns a list of literals as indexes.
func (n names) codes(l []int) []literal {
	var out []literal
	for _, lit := range l {
		out = append(out, n.code(lit))
	}
	return out
}
