package enc

import (
	"slices"

	"skolem/aig"
	"skolem/api"
)

// Graph returns clauses that define the Ands that edges reach by the variables from first on, the literals of the edges, and the next variable.
func Graph(g api.Aig, edges []int, first int) (clauses [][]int, lits []int, next int, e api.Errno) {
	if _, e := aig.Size(g, edges); e != api.OK || first < 1 || slices.ContainsFunc(g.Ins, func(v int) bool { return v >= first }) {
		return nil, nil, 0, api.ErrArg
	}
	names, next, ok := named(g, reached(g, edges), first)
	if !ok {
		return nil, nil, 0, api.ErrLong
	}
	literal := func(edge int) int {
		if edge%2 == 1 {
			return -names[edge/2]
		}
		return names[edge/2]
	}
	if names[0] > 0 {
		clauses = append(clauses, []int{-names[0]})
	}
	by := newRules()
	for i, pair := range g.Ands {
		x := names[1+len(g.Ins)+i]
		if x == 0 {
			continue
		}
		and := api.Gate{Var: x, Kind: api.GateAnd, In: []int{literal(pair[0]), literal(pair[1])}}
		clauses = append(clauses, by.clauses(and, 0)...)
		if len(clauses) > api.MaxClauses { // so many of three literals never have more than MaxLits
			return nil, nil, 0, api.ErrLong
		}
	}
	for _, edge := range edges {
		lits = append(lits, literal(edge))
	}
	return clauses, lits, next, api.OK
}

// reached tells for each node of a valid graph whether edges reach it. An And uses only nodes before it, so one pass from the last And to the first finds them all.
func reached(g api.Aig, edges []int) []bool {
	first := 1 + len(g.Ins)
	is := make([]bool, first+len(g.Ands))
	for _, edge := range edges {
		is[edge/2] = true
	}
	for i, pair := range slices.Backward(g.Ands) {
		if is[first+i] {
			is[pair[0]/2], is[pair[1]/2] = true, true
		}
	}
	return is
}

// named returns the variables of the nodes: those of the inputs, and for the others that are reached the next ones from first on (0: it is not reached), and the variable behind the last one that was given; false: there are not enough.
func named(g api.Aig, is []bool, first int) (names []int, next int, ok bool) {
	names, next = make([]int, len(is)), first
	copy(names[1:], g.Ins)
	for n := range names {
		if !is[n] || names[n] > 0 {
			continue
		}
		if next > api.MaxVar {
			return nil, 0, false
		}
		names[n] = next
		next++
	}
	return names, next, true
}
