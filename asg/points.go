package asg

import (
	"slices"

	"skolem/api"
	"skolem/lits"
)

// maxBits is how many variables the bits of a number can be.
const maxBits = 64

// mayVars reports whether a list is one of variables, strictly ascending, that a number has bits for.
func mayVars(vars []int) bool {
	return len(vars) <= maxBits && lits.May(vars) && !slices.ContainsFunc(vars, func(v int) bool { return v < 0 })
}

// Point returns the assignment number n of some variables, and Number the number of an assignment.
func Point(vars []int, n uint64) ([]int, api.Errno) {
	if !mayVars(vars) {
		return nil, api.ErrArg
	}
	if n>>len(vars) != 0 { // behind 64 variables nothing is left
		return nil, api.ErrRange
	}
	a := make([]int, len(vars))
	for i, v := range vars {
		a[i] = v
		if n>>i&1 == 0 {
			a[i] = -v
		}
	}
	return a, api.OK
}

func Number(vars, a []int) (uint64, api.Errno) {
	if !mayVars(vars) || !lits.May(a) {
		return 0, api.ErrArg
	}
	if len(a) != len(vars) {
		return 0, api.ErrNone
	}
	n := uint64(0)
	for i, v := range vars {
		switch a[i] {
		case v:
			n |= 1 << i
		case -v:
		default:
			return 0, api.ErrNone
		}
	}
	return n, api.OK
}
