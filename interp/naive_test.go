package interp_test

import (
	"slices"

	"skolem/api"
)

// The functions of this file follow the chapters' sentences word by word, without regard to time; the tests hold the package against them.

func isLit(x int) bool { return x != 0 && x >= -65536 && x <= 65536 }

func variable(x int) int { return max(x, -x) }

func naiveMayList(l []int) bool {
	for i, x := range l {
		if !isLit(x) || i > 0 && variable(l[i-1]) >= variable(x) {
			return false
		}
	}
	return true
}

func naiveMayCnf(f [][]int) bool {
	return len(f) <= 20000 && !slices.ContainsFunc(f, func(c []int) bool { return !naiveMayList(c) }) && len(slices.Concat(f...)) <= 200000
}

func naiveMayLeft(f [][]int, left []int) bool {
	for i, n := range left {
		if n < 0 || n >= len(f) || i > 0 && left[i-1] >= n {
			return false
		}
	}
	return true
}

// without returns the elements of a list that are not another one.
func without(l []int, other int) []int {
	return slices.DeleteFunc(slices.Clone(l), func(x int) bool { return x == other })
}

func naiveResolvent(a, b []int, piv int) ([]int, bool) {
	if piv < 1 || piv > 65536 || !slices.Contains(a, piv) || !slices.Contains(b, -piv) {
		return nil, false
	}
	l := slices.Concat(without(a, piv), without(b, -piv))
	slices.SortFunc(l, func(x, y int) int {
		if variable(x) != variable(y) {
			return variable(x) - variable(y)
		}
		return x - y
	})
	l = slices.Compact(l)
	if !naiveMayList(l) {
		return nil, false
	}
	return l, true
}

// naiveRefutes follows layer 10; the CNF is one.
func naiveRefutes(f [][]int, p api.Proof) bool {
	if len(p.Lines) == 0 || len(p.Lines) > 1000000 || p.Cubes {
		return false
	}
	for i, l := range p.Lines {
		ok := false
		switch l.Rule {
		case api.RuInput:
			ok = l.A >= 0 && l.A < len(f) && l.B == 0 && l.Piv == 0 && slices.Equal(l.Lits, f[l.A])
		case api.RuResolve:
			if l.A >= 0 && l.A < i && l.B >= 0 && l.B < i {
				r, is := naiveResolvent(p.Lines[l.A].Lits, p.Lines[l.B].Lits, l.Piv)
				ok = is && slices.Equal(l.Lits, r)
			}
		}
		if !ok {
			return false
		}
	}
	return len(p.Lines[len(p.Lines)-1].Lits) == 0
}

// sides tells which clauses are left, and which variables occur in those, or in the others.
type sides struct{ left, inLeft, inRight map[int]bool }

func sidesOf(f [][]int, left []int) sides {
	s := sides{map[int]bool{}, map[int]bool{}, map[int]bool{}}
	for _, n := range left {
		s.left[n] = true
	}
	for i, c := range f {
		for _, x := range c {
			if s.left[i] {
				s.inLeft[variable(x)] = true
			} else {
				s.inRight[variable(x)] = true
			}
		}
	}
	return s
}

func naiveShared(f [][]int, left []int) ([]int, api.Errno) {
	if !naiveMayCnf(f) || !naiveMayLeft(f, left) {
		return nil, api.ErrArg
	}
	s := sidesOf(f, left)
	var l []int
	for v := range s.inLeft {
		if s.inRight[v] {
			l = append(l, v)
		}
	}
	slices.Sort(l)
	return l, api.OK
}

// naiveGraph is a graph of layer 6, to which Ands are appended without a limit.
type naiveGraph struct {
	ins  []int
	ands [][2]int
	in   map[int]int    // the edge of an input
	at   map[[2]int]int // the edge of an And
}

func newGraph(ins []int) *naiveGraph {
	g := &naiveGraph{ins, nil, map[int]int{}, map[[2]int]int{}}
	for i, v := range ins {
		g.in[v] = 2 * (i + 1)
	}
	return g
}

func (g *naiveGraph) nodes() int { return 1 + len(g.ins) + len(g.ands) }

func (g *naiveGraph) and(a, b int) int {
	if a > b {
		a, b = b, a
	}
	switch {
	case a == 0:
		return 0
	case a == 1:
		return b
	case a == b:
		return a
	case b == a^1:
		return 0
	}
	pair := [2]int{a, b}
	if edge, ok := g.at[pair]; ok {
		return edge
	}
	g.at[pair] = 2 * g.nodes()
	g.ands = append(g.ands, pair)
	return g.at[pair]
}

func (g *naiveGraph) or(a, b int) int { return g.and(a^1, b^1) ^ 1 }

// any returns the disjunction of a list: the opposite of the conjunction of the list of opposites.
func (g *naiveGraph) any(l []int) int {
	x := 1
	for _, edge := range l {
		x = g.and(x, edge^1)
	}
	return x ^ 1
}

// cone copies what an edge reaches into a graph with the same inputs.
func (g *naiveGraph) cone(edge int) (api.Aig, int) {
	first := 1 + len(g.ins)
	is := map[int]bool{edge / 2: true}
	for i, pair := range slices.Backward(g.ands) {
		if is[first+i] {
			is[pair[0]/2], is[pair[1]/2] = true, true
		}
	}
	c := newGraph(g.ins)
	image := make([]int, g.nodes())
	for n := 1; n < first; n++ {
		image[n] = 2 * n
	}
	for i, pair := range g.ands {
		if is[first+i] {
			image[first+i] = c.and(image[pair[0]/2]^pair[0]%2, image[pair[1]/2]^pair[1]%2)
		}
	}
	return api.Aig{Ins: c.ins, Ands: c.ands}, image[edge/2] ^ edge%2
}

// naiveEdge makes the edge of a line of a proof, those of the lines before it being there.
func (g *naiveGraph) naiveEdge(l api.Line, s sides, edges []int, strong bool) int {
	switch {
	case l.Rule == api.RuInput && !strong && s.left[l.A]:
		return 0
	case l.Rule == api.RuInput && strong && s.left[l.A]:
		var list []int
		for _, x := range l.Lits {
			switch {
			case !s.inLeft[variable(x)] || !s.inRight[variable(x)]:
			case x < 0:
				list = append(list, g.in[-x]^1)
			default:
				list = append(list, g.in[x])
			}
		}
		return g.any(list)
	case l.Rule == api.RuInput:
		return 1
	}
	a, b := edges[l.A], edges[l.B]
	switch {
	case !s.inRight[l.Piv]:
		return g.or(a, b)
	case strong || !s.inLeft[l.Piv]:
		return g.and(a, b)
	}
	x := g.in[l.Piv]
	u := g.or(x, a)
	v := g.or(x^1, b)
	return g.and(u, v)
}

// naiveEdges makes the edges of all lines of a proof, in a graph that has no limit.
func naiveEdges(f [][]int, left []int, p api.Proof, strong bool) (*naiveGraph, []int) {
	shared, _ := naiveShared(f, left)
	s := sidesOf(f, left)
	g := newGraph(shared)
	var edges []int
	for _, l := range p.Lines {
		edges = append(edges, g.naiveEdge(l, s, edges, strong))
	}
	return g, edges
}

func naiveInterpolant(f [][]int, left []int, p api.Proof, strong bool) (api.Aig, int, api.Errno) {
	if _, e := naiveShared(f, left); e != api.OK {
		return api.Aig{}, 0, api.ErrArg
	}
	if !naiveRefutes(f, p) {
		return api.Aig{}, 0, api.ErrProof
	}
	g, edges := naiveEdges(f, left, p, strong)
	if g.nodes() > 200000 {
		return api.Aig{}, 0, api.ErrLong
	}
	c, edge := g.cone(edges[len(edges)-1])
	return c, edge, api.OK
}

// value returns the value of an edge under an assignment.
func value(g api.Aig, edge int, a []int) bool {
	is := []bool{false}
	of := func(edge int) bool { return is[edge/2] != (edge%2 == 1) }
	for _, v := range g.Ins {
		is = append(is, slices.Contains(a, v))
	}
	for _, pair := range g.Ands {
		is = append(is, of(pair[0]) && of(pair[1]))
	}
	return of(edge)
}

// satisfiesAll reports whether an assignment satisfies those of the clauses whose numbers are in a list.
func satisfiesAll(a []int, f [][]int, of []int) bool {
	return !slices.ContainsFunc(of, func(n int) bool {
		return !slices.ContainsFunc(f[n], func(x int) bool { return slices.Contains(a, x) })
	})
}

// sameGraph reports whether two graphs are equal; lists that are nil or empty are.
func sameGraph(a, b api.Aig) bool { return slices.Equal(a.Ins, b.Ins) && slices.Equal(a.Ands, b.Ands) }

// isNothing reports whether a graph is zero.
func isNothing(g api.Aig) bool { return len(g.Ins) == 0 && len(g.Ands) == 0 }
