package interp

import (
	"skolem/aig"
	"skolem/api"
)

// rules make the edges of lines: that of an input, and that of a resolvent on a variable, of lines with the edges a and b.
type rules struct {
	input   func(l api.Line) int
	resolve func(piv, a, b int) int
}

// work is what rules use: the sides, and a graph; take returns an edge that the graph has made, and remembers its error.
type work struct {
	sides
	graph *aig.Maker
	take  func(edge int, e api.Errno) int
}

func (w work) or(a, b int) int { return w.take(w.graph.Or(a, b)) }

func (w work) and(a, b int) int { return w.take(w.graph.And(a, b)) }

// even returns the rules of Make, which do with both sides alike.
func (w work) even() rules {
	return rules{
		input: func(l api.Line) int {
			if w.left[l.A] {
				return 0
			}
			return 1
		},
		resolve: func(piv, a, b int) int {
			switch on := w.on[piv]; {
			case !on.right:
				return w.or(a, b)
			case !on.left:
				return w.and(a, b)
			}
			x := w.take(w.graph.In(piv))
			u := w.or(x, a)
			v := w.or(opposite(x), b)
			return w.and(u, v)
		},
	}
}

// strong returns the rules of Strong.
func (w work) strong() rules {
	return rules{
		input: func(l api.Line) int {
			if !w.left[l.A] {
				return 1
			}
			return w.take(w.graph.Any(w.sharedOf(l.Lits)))
		},
		resolve: func(piv, a, b int) int {
			if !w.on[piv].right {
				return w.or(a, b)
			}
			return w.and(a, b)
		},
	}
}

// sharedOf returns the edges of the literals of a clause whose variables are shared, in their order.
func (w work) sharedOf(clause []int) []int {
	var edges []int
	for _, lit := range clause {
		if !w.isShared(max(lit, -lit)) {
			continue
		}
		edge := w.take(w.graph.In(max(lit, -lit)))
		if lit < 0 {
			edge = opposite(edge)
		}
		edges = append(edges, edge)
	}
	return edges
}

func opposite(edge int) int { return edge ^ 1 }
