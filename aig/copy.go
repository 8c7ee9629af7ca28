package aig

import (
	"slices"

	"skolem/api"
)

// copier returns a function that copies what edges of a valid graph reach into the maker's graph; it is given the images of the inputs, by their variables, and returns those of the edges.
func (m *Maker) copier(g api.Aig) func(edges []int, image func(v int) int) []int {
	first := 1 + len(g.Ins)
	return func(edges []int, image func(v int) int) []int {
		to := make([]int, nodes(g))
		ins, ands := reached(g, edges...)
		for _, n := range ins {
			to[n] = image(g.Ins[n-1])
		}
		for _, n := range ands {
			pair := g.Ands[n-first]
			to[n] = m.and(moved(pair[0], to), moved(pair[1], to))
		}
		var images []int
		for _, edge := range edges {
			images = append(images, moved(edge, to))
		}
		return images
	}
}

// puts returns which edges, of the first nodes, are put in the place of which variables; false: there are no such edges, or two for one variable.
func puts(by []api.Out, nodes int) (map[int]int, bool) {
	put := map[int]int{}
	for _, o := range by {
		if _, ok := put[o.Var]; ok || !isEdge(o.Edge, nodes) {
			return nil, false
		}
		put[o.Var] = o.Edge
	}
	return put, true
}

// orElse returns the images that a map tells, and for other inputs those that a function does.
func orElse(put map[int]int, image func(v int) int) func(v int) int {
	return func(v int) int {
		if edge, ok := put[v]; ok {
			return edge
		}
		return image(v)
	}
}

// Cone returns a graph with the same inputs that has what the edges reach alone, and the edges in it.
func Cone(g api.Aig, edges []int) (api.Aig, []int, api.Errno) { return Restrict(g, edges, nil) }

// Restrict returns a graph in which the inputs of an assignment are constants (they are no inputs any more), and the edges in it.
func Restrict(g api.Aig, edges, a []int) (api.Aig, []int, api.Errno) {
	if !has(g, edges...) || !normal(a) {
		return api.Aig{}, nil, api.ErrArg
	}
	fixed := map[int]int{}
	for _, lit := range a {
		fixed[variable(lit)] = 0
		if lit > 0 {
			fixed[lit] = 1
		}
	}
	isFixed := func(v int) bool { _, ok := fixed[v]; return ok }
	m := maker(api.Aig{Ins: slices.DeleteFunc(slices.Clone(g.Ins), isFixed)})
	images := m.copier(g)(edges, orElse(fixed, m.input))
	return m.graph(), images, api.OK
}

// Compose returns a graph in which some inputs are replaced by edges, all at once, and the edges in it.
func Compose(g api.Aig, edges []int, by []api.Out) (api.Aig, []int, api.Errno) {
	put, ok := puts(by, nodes(g))
	if !ok || !has(g, edges...) {
		return api.Aig{}, nil, api.ErrArg
	}
	var ends []int
	for _, o := range by {
		if place(g.Ins, o.Var) == 0 {
			return api.Aig{}, nil, api.ErrNone
		}
		ends = append(ends, o.Edge)
	}
	m := maker(api.Aig{Ins: g.Ins})
	copied := m.copier(g)
	for i, edge := range copied(ends, m.input) {
		put[by[i].Var] = edge
	}
	images := copied(edges, orElse(put, m.input))
	if m.full {
		return api.Aig{}, nil, api.ErrLong
	}
	return m.graph(), images, api.OK
}

// Join returns a graph with the inputs and edges of two graphs: the first edges in it, and the second ones.
func Join(a api.Aig, x []int, b api.Aig, y []int) (g api.Aig, u, v []int, e api.Errno) {
	if !has(a, x...) || !has(b, y...) {
		return api.Aig{}, nil, nil, api.ErrArg
	}
	ins := slices.Concat(a.Ins, b.Ins)
	slices.Sort(ins)
	m := maker(api.Aig{Ins: slices.Compact(ins)})
	u = m.copier(a)(x, m.input)
	v = m.copier(b)(y, m.input)
	if m.full {
		return api.Aig{}, nil, nil, api.ErrLong
	}
	return m.graph(), u, v, api.OK
}
