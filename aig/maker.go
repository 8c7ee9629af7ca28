package aig

import (
	"slices"

	"skolem/api"
)

// Maker makes a graph.
type Maker struct {
	self  *Maker // the maker itself; in a copy of one, which no function has made, it is another one
	ins   []int
	ands  [][2]int
	first map[[2]int]int // the node of the first And that is a pair
	full  bool           // an And found no room
}

// maker returns a maker that goes on with a valid graph.
func maker(g api.Aig) *Maker {
	m := &Maker{ins: slices.Clone(g.Ins), ands: slices.Clone(g.Ands), first: map[[2]int]int{}}
	m.self = m
	for i, pair := range m.ands {
		if _, ok := m.first[pair]; !ok {
			m.first[pair] = 1 + len(m.ins) + i
		}
	}
	return m
}

// New returns a maker of a graph with these inputs (ascending variables) and no Ands.
func New(ins []int) (*Maker, api.Errno) { return Edit(api.Aig{Ins: ins}) }

// Edit returns a maker that goes on with a graph.
func Edit(g api.Aig) (*Maker, api.Errno) {
	if !May(g) {
		return nil, api.ErrArg
	}
	return maker(g), api.OK
}

func (m *Maker) made() bool { return m != nil && m.self == m }

func (m *Maker) graph() api.Aig { return api.Aig{Ins: m.ins, Ands: m.ands} }

// input returns the edge of an input; 0: the variable is none.
func (m *Maker) input(v int) int { return 2 * place(m.ins, v) }

// and makes the conjunction of two edges. If there is no room for it, the maker remembers that, and what is returned does not matter.
func (m *Maker) and(a, b int) int {
	a, b = min(a, b), max(a, b)
	switch {
	case a == 0 || b == opposite(a):
		return 0
	case a == 1 || a == b:
		return b
	}
	pair := [2]int{a, b}
	n, ok := m.first[pair]
	if ok {
		return 2 * n
	}
	n = nodes(m.graph())
	if n == api.MaxNodes {
		m.full = true
		return 0
	}
	m.ands, m.first[pair] = append(m.ands, pair), n
	return 2 * n
}

func (m *Maker) or(a, b int) int { return opposite(m.and(opposite(a), opposite(b))) }

func (m *Maker) xor(a, b int) int {
	u := m.and(a, opposite(b))
	return m.or(u, m.and(opposite(a), b))
}

func (m *Maker) ite(c, a, b int) int {
	u := m.and(c, a)
	return m.or(u, m.and(opposite(c), b))
}

func (m *Maker) all(l []int) int {
	x := 1
	for _, edge := range l {
		x = m.and(x, edge)
	}
	return x
}

func (m *Maker) any(l []int) int {
	x := 1
	for _, edge := range l {
		x = m.and(x, opposite(edge))
	}
	return opposite(x)
}

// whole does some work and returns its edges; if there is no room for all of it, the graph becomes what it was before.
func (m *Maker) whole(work func() []int) ([]int, api.Errno) {
	before := len(m.ands)
	edges := work()
	if !m.full {
		return edges, api.OK
	}
	m.full = false
	for _, pair := range m.ands[before:] {
		delete(m.first, pair)
	}
	m.ands = m.ands[:before]
	return nil, api.ErrLong
}

// edge makes an edge of others.
func (m *Maker) edge(work func() int, of ...int) (int, api.Errno) {
	if !m.made() {
		return 0, api.ErrNil
	}
	if !areEdges(of, nodes(m.graph())) {
		return 0, api.ErrArg
	}
	l, e := m.whole(func() []int { return []int{work()} })
	if e != api.OK {
		return 0, e
	}
	return l[0], api.OK
}

// In returns the edge of an input.
func (m *Maker) In(v int) (int, api.Errno) {
	if !m.made() {
		return 0, api.ErrNil
	}
	edge := m.input(v)
	if edge == 0 {
		return 0, api.ErrNone
	}
	return edge, api.OK
}

// And returns the edge of a conjunction.
func (m *Maker) And(a, b int) (int, api.Errno) {
	return m.edge(func() int { return m.and(a, b) }, a, b)
}

// Or returns the edge of a disjunction.
func (m *Maker) Or(a, b int) (int, api.Errno) {
	return m.edge(func() int { return m.or(a, b) }, a, b)
}

// Xor returns the edge of an exclusive or.
func (m *Maker) Xor(a, b int) (int, api.Errno) {
	return m.edge(func() int { return m.xor(a, b) }, a, b)
}

// Ite returns the edge of a choice: a if c is true, otherwise b.
func (m *Maker) Ite(c, a, b int) (int, api.Errno) {
	return m.edge(func() int { return m.ite(c, a, b) }, c, a, b)
}

// All returns the edge of the conjunction of edges, from left to right; that of none is true.
func (m *Maker) All(l []int) (int, api.Errno) {
	return m.edge(func() int { return m.all(l) }, l...)
}

// Any returns the edge of the disjunction of edges, from left to right; that of none is false.
func (m *Maker) Any(l []int) (int, api.Errno) {
	return m.edge(func() int { return m.any(l) }, l...)
}

// Copy adds what the edges of another graph reach, and returns the edges.
func (m *Maker) Copy(g api.Aig, edges []int) ([]int, api.Errno) { return m.Graft(g, edges, nil) }

// Graft adds what the edges of another graph reach, with edges of this graph in the place of some of its inputs, and returns the edges.
func (m *Maker) Graft(g api.Aig, edges []int, by []api.Out) ([]int, api.Errno) {
	if !m.made() {
		return nil, api.ErrNil
	}
	put, ok := puts(by, nodes(m.graph()))
	if !ok || !has(g, edges...) {
		return nil, api.ErrArg
	}
	ins, _ := reached(g, edges...)
	for _, n := range ins {
		v := g.Ins[n-1]
		if _, ok := put[v]; !ok && m.input(v) == 0 {
			return nil, api.ErrNone
		}
	}
	return m.whole(func() []int { return m.copier(g)(edges, orElse(put, m.input)) })
}

// Graph returns the graph so far.
func (m *Maker) Graph() api.Aig {
	if !m.made() {
		return api.Aig{}
	}
	return api.Aig{Ins: slices.Clone(m.ins), Ands: slices.Clone(m.ands)}
}
