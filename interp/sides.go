package interp

import (
	"slices"

	"skolem/api"
	"skolem/proof"
)

// where tells on which sides a variable occurs.
type where struct{ left, right bool }

// sides has what is left and right in a CNF.
type sides struct {
	left []bool        // by clause
	on   map[int]where // by variable
}

// split returns the sides of a CNF; false: it is none, or the numbers are not those of some of its clauses, ascending.
func split(cnf [][]int, left []int) (sides, bool) {
	if _, _, e := proof.Under(cnf, nil); e != api.OK || !areNumbers(left, len(cnf)) {
		return sides{}, false
	}
	s := sides{make([]bool, len(cnf)), map[int]where{}}
	for _, at := range left {
		s.left[at] = true
	}
	for at, clause := range cnf {
		for _, lit := range clause {
			v := max(lit, -lit)
			on := s.on[v]
			s.on[v] = where{on.left || s.left[at], on.right || !s.left[at]}
		}
	}
	return s, true
}

// areNumbers reports whether numbers ascend strictly, from 0 on, and are less than n.
func areNumbers(l []int, n int) bool {
	before := -1
	for _, at := range l {
		if at <= before || at >= n {
			return false
		}
		before = at
	}
	return true
}

// isShared reports whether a variable occurs on both sides.
func (s sides) isShared(v int) bool { return s.on[v] == where{true, true} }

// shared returns the variables that occur on both sides, ascending.
func (s sides) shared() []int {
	var vars []int
	for v := range s.on {
		if s.isShared(v) {
			vars = append(vars, v)
		}
	}
	slices.Sort(vars)
	return vars
}
