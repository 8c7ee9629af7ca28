package aig_test

import (
	"math"
	"slices"

	"skolem/api"
)

// What the tests try: graphs of many sorts.

// oddInts are integers at the ends of what a variable, an edge and an int can be.
var oddInts = []int{math.MinInt, math.MinInt + 1, -65537, -65536, -3, -2, -1, 0, 1, 2, 65535, 65536, 65537, 131072, 400000, math.MaxInt - 1, math.MaxInt}

// loose are lists of literals that are not normal.
var loose = [][]int{{0}, {1, 0}, {0, 1}, {2, 1}, {1, 1}, {1, -1}, {-1, 1}, {-2, -2}, {1, 3, 2}, {65537}, {-65537}, {1, 65537}, {math.MinInt}, {math.MaxInt}, {1, math.MinInt}, {-2, 1}}

// variables returns from, from + 1, .. to.
func variables(from, to int) []int {
	var l []int
	for v := from; v <= to; v++ {
		l = append(l, v)
	}
	return l
}

// assignmentsOf returns all assignments of some variables, which ascend, that say something of each.
func assignmentsOf(vars []int) [][]int {
	out := [][]int{nil}
	for _, v := range vars {
		var next [][]int
		for _, a := range out {
			next = append(next, append(slices.Clone(a), -v), append(slices.Clone(a), v))
		}
		out = next
	}
	return out
}

// dice is a sequence of numbers that look like random ones, the same at each run.
type dice uint64

func (d *dice) below(n int) int {
	*d = *d*6364136223846793005 + 1442695040888963407
	return int(uint64(*d) >> 33 % uint64(n))
}

// mixed returns a list in any order.
func mixed[E any](d *dice, l []E) []E {
	l = slices.Clone(l)
	for i := range l {
		j := d.below(i + 1)
		l[i], l[j] = l[j], l[i]
	}
	return l
}

// part returns a list without some elements.
func (d *dice) part(l []int) []int {
	return slices.DeleteFunc(slices.Clone(l), func(int) bool { return d.below(2) == 0 })
}

// assignment returns a normal list of literals of some variables, which ascend, not of all of them.
func (d *dice) assignment(vars []int) []int {
	l := d.part(vars)
	for i := range l {
		l[i] *= 1 - 2*d.below(2)
	}
	return l
}

// inputs returns at most n ascending variables, small ones or great ones.
func (d *dice) inputs(n int) []int {
	l := d.part(variables(1, n))
	if d.below(3) > 0 {
		return l
	}
	for i := range l {
		l[i] += 65536 - n
	}
	return l
}

// edge returns an edge of the first nodes, often of a late one.
func (d *dice) edge(nodes int) int {
	return 2*max(d.below(nodes), d.below(nodes)) + d.below(2)
}

func (d *dice) edges(g api.Aig, n int) []int {
	var l []int
	for range d.below(n + 1) {
		l = append(l, d.edge(nodesOf(g)))
	}
	return l
}

// graph returns a valid graph; one of three is reduced, the others have pairs of all sorts.
func (d *dice) graph(inputs, ands int) api.Aig {
	g := api.Aig{Ins: d.inputs(inputs)}
	sort := d.below(3)
	for range d.below(ands + 1) {
		a, b := d.edge(nodesOf(g)), d.edge(nodesOf(g))
		switch {
		case sort == 0:
			conjunction(&g, a, b)
		case len(g.Ands) > 0 && d.below(6) == 0:
			g.Ands = append(g.Ands, g.Ands[d.below(len(g.Ands))])
		default:
			g.Ands = append(g.Ands, pair(a, b))
		}
	}
	return g
}

// number returns a small or an odd number.
func (d *dice) number() int {
	if d.below(3) > 0 {
		return d.below(16) - 1
	}
	return oddInts[d.below(len(oddInts))]
}

// broken returns a graph that is changed at one place; it may still be valid.
func (d *dice) broken(g api.Aig) api.Aig {
	g = graph(slices.Clone(g.Ins), slices.Clone(g.Ands)...)
	switch d.below(4) {
	case 0:
		g.Ins = slices.Insert(g.Ins, d.below(len(g.Ins)+1), d.number())
	case 1:
		if len(g.Ins) > 0 {
			i := d.below(len(g.Ins))
			g.Ins = slices.Delete(g.Ins, i, i+1)
		}
	case 2:
		if len(g.Ands) > 0 {
			g.Ands[d.below(len(g.Ands))][d.below(2)] = d.number()
		}
	default:
		if len(g.Ands) > 0 {
			i := d.below(len(g.Ands))
			g.Ands = slices.Delete(g.Ands, i, i+1)
		}
	}
	return g
}

// prefix returns a valid prefix of some variables, in any order.
func (d *dice) prefix(vars []int) []api.Block {
	var p []api.Block
	exists := d.below(2) == 0
	for l := mixed(d, vars); len(l) > 0; exists = !exists {
		k := 1 + d.below(min(3, len(l)))
		p = append(p, api.Block{Exists: exists, Vars: slices.Clone(l[:k])})
		l = l[k:]
	}
	return p
}

// gate returns a gate over some variables (none: one without literals).
func (d *dice) gate(v int, over []int) api.Gate {
	g := api.Gate{Var: v, Kind: api.GateKind(1 + d.below(4))}
	n := d.below(5)
	switch {
	case len(over) == 0:
		g.Kind = api.GateKind(1 + d.below(2))
		return g
	case g.Kind == api.GateXor:
		n = 2
	case g.Kind == api.GateIte:
		n = 3
	}
	for range n {
		g.In = append(g.In, over[max(d.below(len(over)), d.below(len(over)))]*(1-2*d.below(2)))
	}
	return g
}

// net returns a valid net.
func (d *dice) net(inputs, gates int) api.Net {
	vars := d.inputs(inputs)
	names := mixed(d, vars)
	n := api.Net{Prefix: d.prefix(vars)}
	for _, v := range mixed(d, variables(inputs+1, inputs+gates))[:1+d.below(gates)] {
		n.Gates = append(n.Gates, d.gate(v, names))
		names = append(names, v)
	}
	n.Out = names[max(d.below(len(names)), d.below(len(names)))] * (1 - 2*d.below(2))
	return n
}

// chain returns a reduced graph with the inputs 1 and 2 and so many nodes; the Ands are different from each other, and from those that are not in the chain.
func chain(nodes int) api.Aig {
	g := graph(ins(1, 2), pair(2, 4))
	for n := 4; n < nodes; n++ {
		g.Ands = append(g.Ands, pair(2+n%2, 2*n-1))
	}
	return g
}

// notGraphs are graphs that are not valid.
func notGraphs() map[string]api.Aig {
	return map[string]api.Aig{
		"0 as an input":             graph(ins(0)),
		"0 before an input":         graph(ins(0, 1)),
		"-1 as an input":            graph(ins(-1)),
		"a negative one between":    graph(ins(1, -2, 3)),
		"a negative one behind":     graph(ins(1, 2, -3)),
		"65537 as an input":         graph(ins(65537)),
		"65537 behind others":       graph(ins(1, 65536, 65537)),
		"all, and 65537":            graph(variables(1, 65537)),
		"the least int":             graph(ins(math.MinInt)),
		"the greatest int":          graph(ins(1, math.MaxInt)),
		"an input twice":            graph(ins(1, 2, 2)),
		"inputs that descend":       graph(ins(2, 1)),
		"inputs out of order":       graph(ins(1, 3, 2, 4)),
		"an edge of its own node":   graph(ins(1), pair(2, 4)),
		"the opposite of itself":    graph(ins(1), pair(5, 2)),
		"an edge of a later node":   graph(ins(1), pair(2, 6), pair(2, 3)),
		"an edge far behind":        graph(ins(1), pair(2, 400000)),
		"itself, without inputs":    graph(nil, pair(0, 2)),
		"a later one's own":         graph(ins(1), pair(2, 3), pair(6, 4)),
		"a negative edge":           graph(ins(1), pair(-1, 2)),
		"a negative one behind it":  graph(ins(1), pair(2, -1)),
		"edge -2":                   graph(ins(1), pair(2, 2), pair(-2, 4)),
		"the least int as an edge":  graph(ins(1), pair(2, math.MinInt)),
		"the greatest as an edge":   graph(ins(1), pair(math.MaxInt, 2)),
		"200001 nodes":              chain(200001),
		"200001 without inputs":     graph(nil, make([][2]int, 200000)...),
		"200001 with all inputs":    graph(variables(1, 65536), make([][2]int, 134464)...),
		"a wrong And at the end":    graph(ins(1), pair(2, 3), pair(4, 2), pair(6, 8)),
		"wrong inputs, and an And":  graph(ins(3, 1), pair(2, 4)),
		"inputs that are not edges": graph(ins(7), pair(7, 7)),
	}
}

// example returns the graph of the chapter's section 'Examples', behind all calls of its first row.
func example() api.Aig {
	return graph(ins(1, 2), pair(2, 4), pair(3, 5), pair(2, 5), pair(3, 4), pair(11, 13))
}
