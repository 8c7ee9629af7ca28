package aig

import (
	"slices"

	"skolem/api"
)

// variable returns the variable of a literal. That of another number is none either: -2^63 stays negative.
func variable(lit int) int { return max(lit, -lit) }

// normal reports whether a list of literals is normal.
func normal(a []int) bool {
	before := 0
	for _, lit := range a {
		v := variable(lit)
		if v <= before || v > api.MaxVar {
			return false
		}
		before = v
	}
	return true
}

// areInputs reports whether numbers are variables that ascend strictly.
func areInputs(ins []int) bool {
	return normal(ins) && !slices.ContainsFunc(ins, func(v int) bool { return v < 0 })
}

// areDifferent reports whether numbers are different variables, in any order.
func areDifferent(vars []int) bool {
	seen := map[int]bool{}
	for _, v := range vars {
		if v < 1 || v > api.MaxVar || seen[v] {
			return false
		}
		seen[v] = true
	}
	return true
}

// nodes returns how many nodes a graph has.
func nodes(g api.Aig) int { return 1 + len(g.Ins) + len(g.Ands) }

// isEdge reports whether a number is an edge of one of the first nodes.
func isEdge(edge, nodes int) bool { return edge >= 0 && edge/2 < nodes }

// areEdges reports whether numbers are edges of the first nodes.
func areEdges(edges []int, nodes int) bool {
	return !slices.ContainsFunc(edges, func(edge int) bool { return !isEdge(edge, nodes) })
}

// has reports whether a graph is valid and has all of some edges.
func has(g api.Aig, edges ...int) bool { return May(g) && areEdges(edges, nodes(g)) }

func opposite(edge int) int { return edge ^ 1 }

// moved returns the edge that an edge becomes when the even edges of the nodes become others.
func moved(edge int, to []int) int { return to[edge/2] ^ edge%2 }

// place returns the node of an input; 0: the variable is none.
func place(ins []int, v int) int {
	if i, ok := slices.BinarySearch(ins, v); ok {
		return i + 1
	}
	return 0
}

// reached returns the inputs and the Ands that edges of a valid graph reach, as nodes, ascending. An And uses only nodes before it, so one pass from the last And to the first finds them all.
func reached(g api.Aig, edges ...int) (ins, ands []int) {
	is := make([]bool, nodes(g))
	for _, edge := range edges {
		is[edge/2] = true
	}
	first := 1 + len(g.Ins)
	for i, pair := range slices.Backward(g.Ands) {
		if is[first+i] {
			is[pair[0]/2], is[pair[1]/2] = true, true
		}
	}
	for n := 1; n < len(is); n++ {
		switch {
		case is[n] && n < first:
			ins = append(ins, n)
		case is[n]:
			ands = append(ands, n)
		}
	}
	return ins, ands
}
