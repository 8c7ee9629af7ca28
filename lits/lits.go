// Package lits is layer 1: see shared/doc/01-lits.md.
package lits

import (
	"cmp"
	"slices"

	"skolem/api"
)

// Var returns the variable of a literal; 0: it is none.
func Var(lit int) int {
	if lit < -api.MaxVar || lit > api.MaxVar {
		return 0
	}
	if lit < 0 {
		return -lit
	}
	return lit
}

// May reports whether a list of literals is normal.
func May(l []int) bool {
	before := 0
	for _, lit := range l {
		v := Var(lit)
		if v <= before {
			return false
		}
		before = v
	}
	return true
}

// MayCnf reports whether lists are a CNF.
func MayCnf(f [][]int) bool {
	if len(f) > api.MaxClauses {
		return false
	}
	total := 0
	for _, l := range f {
		total += len(l)
		if total > api.MaxLits || !May(l) {
			return false
		}
	}
	return true
}

// Norm returns the normal list of some literals.
func Norm(l []int) ([]int, api.Errno) {
	if len(l) > api.MaxLits {
		return nil, api.ErrArg
	}
	for _, lit := range l {
		if Var(lit) == 0 {
			return nil, api.ErrArg
		}
	}
	n := copied(l)
	slices.SortFunc(n, compareLits)
	n = slices.Compact(n)
	if !May(n) {
		return nil, api.ErrTaut
	}
	return n, api.OK
}

// Has reports whether a literal is in a list.
func Has(l []int, lit int) bool {
	return slices.Contains(l, lit)
}

// Neg returns a normal list with all literals negated.
func Neg(l []int) []int {
	if !May(l) {
		return nil
	}
	n := copied(l)
	for i := range n {
		n[i] = -n[i]
	}
	return n
}

// Without returns a normal list without a variable.
func Without(l []int, v int) []int {
	if !May(l) {
		return nil
	}
	var out []int
	for _, lit := range l {
		if Var(lit) != v {
			out = append(out, lit)
		}
	}
	return out
}

// Within returns the literals of a normal list whose variables are among some.
func Within(l, vars []int) []int {
	if !May(l) {
		return nil
	}
	stays := make([]bool, len(l))
	for _, v := range vars {
		i, found := slices.BinarySearchFunc(l, v, func(lit, v int) int { return cmp.Compare(Var(lit), v) })
		if found {
			stays[i] = true
		}
	}
	var out []int
	for i, lit := range l {
		if stays[i] {
			out = append(out, lit)
		}
	}
	return out
}

// Vars returns the variables of lists of literals, ascending.
func Vars(f [][]int) []int {
	greatest := 0
	for _, l := range f {
		for _, lit := range l {
			greatest = max(greatest, Var(lit))
		}
	}
	occurs := make([]bool, greatest+1)
	for _, l := range f {
		for _, lit := range l {
			occurs[Var(lit)] = true
		}
	}
	var out []int
	for v := 1; v <= greatest; v++ {
		if occurs[v] {
			out = append(out, v)
		}
	}
	return out
}

// copied returns a list with the same elements in memory of its own.
func copied(l []int) []int {
	c := make([]int, len(l))
	copy(c, l)
	return c
}
