package prefix

import (
	"iter"

	"skolem/api"
)

// enter puts a variable into a set; false: the number is no variable, or is there already.
func enter(set map[int]bool, v int) bool {
	if v < 1 || v > api.MaxVar || set[v] {
		return false
	}
	set[v] = true
	return true
}

// quantified returns the variables of a prefix; false: it is not valid.
func quantified(p []api.Block) (map[int]bool, bool) {
	set := map[int]bool{}
	for i, b := range p {
		if len(b.Vars) == 0 || i > 0 && b.Exists == p[i-1].Exists {
			return nil, false
		}
		for _, v := range b.Vars {
			if !enter(set, v) || len(set) > api.MaxQuant {
				return nil, false
			}
		}
	}
	return set, true
}

// quantifiedByRows returns the variables of a Dqbf; false: they, or the On of one of them, are not as they must be.
func quantifiedByRows(d api.Dqbf) (map[int]bool, bool) {
	set := map[int]bool{}
	before := 0
	for _, v := range d.Univ {
		if v <= before || !enter(set, v) || len(set) > api.MaxQuant {
			return nil, false
		}
		before = v
	}
	before = 0
	for _, row := range d.Exist {
		v := row.Var
		if v <= before || !enter(set, v) || len(set) > api.MaxQuant || !isPart(row.On, d.Univ) {
			return nil, false
		}
		before = v
	}
	return set, true
}

// isPart reports whether a list ascends strictly and is part of another one, which does.
func isPart(a, b []int) bool {
	for _, x := range a {
		for len(b) > 0 && b[0] < x {
			b = b[1:]
		}
		if len(b) == 0 || b[0] != x {
			return false
		}
		b = b[1:]
	}
	return true
}

// magnitude returns the variable of a literal, which that of -2^63 is as a uint only.
func magnitude(lit int) uint {
	if lit < 0 {
		return -uint(lit)
	}
	return uint(lit)
}

// normal reports whether a list of literals is normal.
func normal(c []int) bool {
	before := uint(0)
	for _, lit := range c {
		v := magnitude(lit)
		if v <= before || v > api.MaxVar {
			return false
		}
		before = v
	}
	return true
}

// mayCnf reports whether clauses are a CNF.
func mayCnf(f [][]int) bool {
	if len(f) > api.MaxClauses {
		return false
	}
	total := 0
	for _, c := range f {
		total += len(c)
		if total > api.MaxLits || !normal(c) {
			return false
		}
	}
	return true
}

// occurring tells the variables of the literals of a CNF.
func occurring(f [][]int) iter.Seq[int] {
	return func(yield func(v int) bool) {
		for _, c := range f {
			for _, lit := range c {
				if !yield(int(magnitude(lit))) {
					return
				}
			}
		}
	}
}

// mayCnfOf reports whether clauses are a CNF of some variables alone.
func mayCnfOf(f [][]int, vars map[int]bool) bool {
	if !mayCnf(f) {
		return false
	}
	for v := range occurring(f) {
		if !vars[v] {
			return false
		}
	}
	return true
}

// May reports whether a prefix is valid.
func May(p []api.Block) bool {
	_, ok := quantified(p)
	return ok
}

// MayQbf reports whether a Qbf is valid.
func MayQbf(q api.Qbf) bool {
	vars, ok := quantified(q.Prefix)
	return ok && mayCnfOf(q.Clauses, vars)
}

// MayDqbf reports whether a Dqbf is valid.
func MayDqbf(d api.Dqbf) bool {
	vars, ok := quantifiedByRows(d)
	return ok && mayCnfOf(d.Clauses, vars)
}
