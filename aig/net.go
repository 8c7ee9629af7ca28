package aig

import (
	"slices"

	"skolem/api"
	"skolem/circ"
)

// edgeOf returns the edge of a literal, when the variables have some edges.
func edgeOf(lit int, of map[int]int) int {
	if lit < 0 {
		return opposite(of[-lit])
	}
	return of[lit]
}

// gate makes the edge of a gate of some kind.
func (m *Maker) gate(kind api.GateKind, in []int) int {
	switch kind {
	case api.GateAnd:
		return m.all(in)
	case api.GateOr:
		return m.any(in)
	case api.GateXor:
		return m.xor(in[0], in[1])
	}
	return m.ite(in[0], in[1], in[2])
}

// quantified returns the variables of a prefix, ascending.
func quantified(p []api.Block) []int {
	var vars []int
	for _, b := range p {
		vars = append(vars, b.Vars...)
	}
	slices.Sort(vars)
	return vars
}

// FromNet returns the graph of a net, and the edge of its output.
func FromNet(n api.Net) (api.Aig, int, api.Errno) {
	if !circ.May(n) {
		return api.Aig{}, 0, api.ErrArg
	}
	m := maker(api.Aig{Ins: quantified(n.Prefix)})
	of := map[int]int{}
	for _, v := range m.ins {
		of[v] = m.input(v)
	}
	for _, g := range n.Gates {
		var in []int
		for _, lit := range g.In {
			in = append(in, edgeOf(lit, of))
		}
		of[g.Var] = m.gate(g.Kind, in)
	}
	if m.full {
		return api.Aig{}, 0, api.ErrLong
	}
	c, images, _ := Cone(m.graph(), []int{edgeOf(n.Out, of)})
	return c, images[0], api.OK
}

// mayPrefix reports whether a prefix is valid: whether a net is one that has it, and the first of its variables as Out.
func mayPrefix(p []api.Block) bool {
	return len(p) == 0 || len(p[0].Vars) > 0 && circ.May(api.Net{Prefix: p, Out: p[0].Vars[0]})
}

// unused returns the k least variables that are not in an ascending list; fewer if there are no more.
func unused(vars []int, k int) []int {
	var out []int
	for v := 1; v <= api.MaxVar && len(out) < k; v++ {
		if place(vars, v) == 0 {
			out = append(out, v)
		}
	}
	return out
}

// gatesOf returns the gates of the Ands of a graph, which have some variables, and the literal of an edge.
func gatesOf(g api.Aig, vars []int, edge int) ([]api.Gate, int) {
	names := slices.Concat([]int{0}, g.Ins, vars)
	literal := func(edge int) int {
		if edge%2 == 1 {
			return -names[edge/2]
		}
		return names[edge/2]
	}
	var gates []api.Gate
	for i, pair := range g.Ands {
		gates = append(gates, api.Gate{Var: vars[i], Kind: api.GateAnd, In: []int{literal(pair[0]), literal(pair[1])}})
	}
	return gates, literal(edge)
}

// lacks reports whether an ascending list does not have all inputs that an edge, or an And, uses: perhaps the edge does not reach that And, but the net will have it.
func lacks(vars []int, g api.Aig, edge int) bool {
	used := []int{edge}
	for _, pair := range g.Ands {
		used = append(used, pair[0], pair[1])
	}
	ins, _ := reached(g, used...)
	return slices.ContainsFunc(ins, func(n int) bool { return place(vars, g.Ins[n-1]) == 0 })
}

// ToNet returns the net of an edge with a prefix that has all inputs that the edge reaches.
func ToNet(g api.Aig, edge int, prefix []api.Block) (api.Net, api.Errno) {
	if !has(g, edge) || !mayPrefix(prefix) {
		return api.Net{}, api.ErrArg
	}
	c, images, _ := Cone(g, []int{edge})
	out, vars := images[0], quantified(prefix)
	n := api.Net{}
	for _, b := range prefix {
		n.Prefix = append(n.Prefix, api.Block{Exists: b.Exists, Vars: slices.Clone(b.Vars)})
	}
	if out < 2 {
		v := unused(vars, 1)[0] // there is one: a prefix has MaxQuant variables at most
		n.Gates, n.Out = []api.Gate{{Var: v, Kind: api.GateAnd}}, v
		if out == 0 {
			n.Out = -v
		}
		return n, api.OK
	}
	if lacks(vars, c, out) {
		return api.Net{}, api.ErrNone
	}
	names := unused(vars, len(c.Ands))
	if len(names) < len(c.Ands) {
		return api.Net{}, api.ErrLong
	}
	n.Gates, n.Out = gatesOf(c, names, out)
	return n, api.OK
}
