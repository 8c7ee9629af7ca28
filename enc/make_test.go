package enc_test

import (
	"math"
	"slices"

	"skolem/api"
)

// What the tests try: gates, nets, graphs and clauses of many sorts.

// oddInts are integers at the ends of what a literal, a variable, an edge, a way and an int can be.
var oddInts = []int{math.MinInt, math.MinInt + 1, -65537, -65536, -3, -2, -1, 0, 1, 2, 3, 65535, 65536, 65537, 400000, math.MaxInt - 1, math.MaxInt}

// loose are lists of literals that are not normal.
var loose = [][]int{{0}, {1, 0}, {0, 1}, {2, 1}, {1, 1}, {1, -1}, {-1, 1}, {-2, -2}, {1, 3, 2}, {65537}, {-65537}, {1, 65537}, {math.MinInt}, {math.MaxInt}, {math.MinInt + 1}, {1, math.MinInt}, {1, math.MaxInt}, {math.MinInt, 1}}

// looseCnfs are lists that are no CNF.
func looseCnfs() [][][]int {
	var all [][][]int
	for _, l := range loose {
		all = append(all, [][]int{l}, [][]int{{1}, l}, [][]int{{}, l, {2}})
	}
	wide := append(slices.Repeat([][]int{variables(1, 50000)}, 4), []int{1})
	return append(all, make([][]int, 20001), slices.Repeat([][]int{{1}}, 20001), wide)
}

// variables returns from, from + 1, .. to.
func variables(from, to int) []int {
	var l []int
	for v := from; v <= to; v++ {
		l = append(l, v)
	}
	return l
}

// negated returns the negatives of literals.
func negated(l []int) []int {
	l = slices.Clone(l)
	for i := range l {
		l[i] = -l[i]
	}
	return l
}

func some(v ...int) api.Block { return api.Block{Exists: true, Vars: v} }

func all(v ...int) api.Block { return api.Block{Vars: v} }

func blocks(b ...api.Block) []api.Block { return b }

func and(v int, in ...int) api.Gate { return api.Gate{Var: v, Kind: api.GateAnd, In: in} }

func or(v int, in ...int) api.Gate { return api.Gate{Var: v, Kind: api.GateOr, In: in} }

func xor(v int, in ...int) api.Gate { return api.Gate{Var: v, Kind: api.GateXor, In: in} }

func ite(v int, in ...int) api.Gate { return api.Gate{Var: v, Kind: api.GateIte, In: in} }

func net(p []api.Block, out int, gates ...api.Gate) api.Net {
	return api.Net{Prefix: p, Gates: gates, Out: out}
}

func graph(ins []int, ands ...[2]int) api.Aig { return api.Aig{Ins: ins, Ands: ands} }

func pair(a, b int) [2]int { return [2]int{a, b} }

func list(l ...int) []int { return l }

func clauses(f ...[]int) [][]int { return f }

// tuples returns all lists of n of some numbers.
func tuples(n int, of []int) [][]int {
	out := [][]int{nil}
	for range n {
		var next [][]int
		for _, l := range out {
			for _, x := range of {
				next = append(next, append(slices.Clone(l), x))
			}
		}
		out = next
	}
	return out
}

// literals returns the literals of variables.
func literals(vars ...int) []int { return slices.Concat(vars, negated(vars)) }

// normalLists returns all normal lists of the variables.
func normalLists(vars ...int) [][]int {
	all := [][]int{nil}
	for _, v := range vars {
		for _, l := range slices.Clone(all) {
			all = append(all, append(slices.Clone(l), -v), append(slices.Clone(l), v))
		}
	}
	return all
}

// assignments returns all assignments of some variables, in any order, that say something of each.
func assignments(vars []int) [][]int {
	vars = slices.Sorted(slices.Values(vars))
	return slices.DeleteFunc(normalLists(vars...), func(a []int) bool { return len(a) < len(vars) })
}

// gatesOver returns all gates of a variable with up to n literals of some.
func gatesOver(v, n int, lits []int) []api.Gate {
	var out []api.Gate
	for k := range n + 1 {
		for _, in := range tuples(k, lits) {
			out = append(out, and(v, in...), or(v, in...))
		}
	}
	for _, in := range tuples(2, lits) {
		out = append(out, xor(v, in...))
	}
	for _, in := range tuples(3, lits) {
		out = append(out, ite(v, in...))
	}
	return out
}

// dice is a sequence of numbers that look like random ones, the same at each run.
type dice uint64

func (d *dice) below(n int) int {
	*d = *d*6364136223846793005 + 1442695040888963407
	return int(uint64(*d) >> 33 % uint64(n))
}

// mixed returns a list in any order.
func mixed[E any](d *dice, l []E) []E {
	l = slices.Clone(l)
	for i := range l {
		j := d.below(i + 1)
		l[i], l[j] = l[j], l[i]
	}
	return l
}

// names returns n variables in any order: small ones, such with gaps, or the greatest ones.
func (d *dice) names(n int) []int {
	switch d.below(4) {
	case 0:
		return mixed(d, variables(65537-n, 65536))
	case 1:
		return mixed(d, variables(1, 3*n))[:n]
	}
	return mixed(d, variables(1, n))
}

// part returns a list without some elements.
func (d *dice) part(l []int) []int {
	return slices.DeleteFunc(slices.Clone(l), func(int) bool { return d.below(2) == 0 })
}

// prefix returns a valid prefix of some variables.
func (d *dice) prefix(vars []int) []api.Block {
	var p []api.Block
	exists := d.below(2) == 0
	for l := vars; len(l) > 0; exists = !exists {
		k := 1 + d.below(min(3, len(l)))
		p = append(p, api.Block{Exists: exists, Vars: slices.Clone(l[:k])})
		l = l[k:]
	}
	return p
}

// literal returns a literal of one of some variables, often of a late one.
func (d *dice) literal(vars []int) int {
	i := max(d.below(len(vars)), d.below(len(vars)))
	return vars[i] * (1 - 2*d.below(2))
}

// gate returns a gate over some variables (none: one without literals).
func (d *dice) gate(v int, over []int) api.Gate {
	g := api.Gate{Var: v, Kind: api.GateKind(1 + d.below(4))}
	n := d.below(5)
	switch {
	case len(over) == 0:
		g.Kind = api.GateKind(1 + d.below(2))
		return g
	case g.Kind == api.GateXor:
		n = 2
	case g.Kind == api.GateIte:
		n = 3
	}
	for range n {
		g.In = append(g.In, d.literal(over))
	}
	return g
}

// net returns a valid net of at most some variables in the prefix, and gates.
func (d *dice) net(inputs, gates int) api.Net {
	i, k := d.below(inputs+1), d.below(gates+1)
	if i+k == 0 {
		k = 1
	}
	names := d.names(i + k)
	n := api.Net{Prefix: d.prefix(names[:i])}
	for j := i; j < i+k; j++ {
		n.Gates = append(n.Gates, d.gate(names[j], names[:j]))
	}
	n.Out = d.literal(names)
	return n
}

// number returns a small or an odd number.
func (d *dice) number() int {
	if d.below(3) > 0 {
		return (1 + d.below(12)) * (1 - 2*d.below(2))
	}
	return oddInts[d.below(len(oddInts))]
}

// brokenList returns a list that is changed at one place, or is longer or shorter.
func (d *dice) brokenList(l []int) []int {
	l = slices.Clone(l)
	switch k := d.below(3); {
	case k == 0 || len(l) == 0:
		return slices.Insert(l, d.below(len(l)+1), d.number())
	case k == 1:
		l[d.below(len(l))] = d.number()
		return l
	}
	return slices.Delete(l, 0, 1)
}

// brokenGate returns a gate that is changed in one thing; it may still be right.
func (d *dice) brokenGate(g api.Gate) api.Gate {
	switch d.below(3) {
	case 0:
		g.Var = d.number()
	case 1:
		g.Kind = api.GateKind(d.below(6))
	default:
		g.In = d.brokenList(g.In)
	}
	return g
}

// brokenPrefix returns a prefix that is changed at one place; it may still be valid.
func (d *dice) brokenPrefix(p []api.Block) []api.Block {
	p = slices.Clone(p)
	if len(p) == 0 || d.below(3) == 0 {
		return slices.Insert(p, d.below(len(p)+1), api.Block{Exists: d.below(2) == 0, Vars: d.part(list(1, 12))})
	}
	b := &p[d.below(len(p))]
	if d.below(2) == 0 {
		b.Exists = !b.Exists
	} else {
		b.Vars = d.brokenList(b.Vars)
	}
	return p
}

// brokenNet returns a net that is changed at one place; it may still be valid.
func (d *dice) brokenNet(n api.Net) api.Net {
	switch k := d.below(4); {
	case k == 0:
		n.Out = d.number()
	case k == 1 || len(n.Gates) == 0:
		n.Prefix = d.brokenPrefix(n.Prefix)
	default:
		n.Gates = slices.Clone(n.Gates)
		i, j := d.below(len(n.Gates)), d.below(len(n.Gates))
		if k == 2 {
			n.Gates[i], n.Gates[j] = n.Gates[j], n.Gates[i]
		} else {
			n.Gates[i] = d.brokenGate(n.Gates[i])
		}
	}
	return n
}

// clause returns a clause of some of the variables, with any signs.
func (d *dice) clause(vars []int) []int {
	l := slices.Sorted(slices.Values(d.part(vars)))
	for i := range l {
		l[i] *= 1 - 2*d.below(2)
	}
	return l
}

// cnf returns up to n clauses of some of the variables; some are there twice.
func (d *dice) cnf(n int, vars []int) [][]int {
	var f [][]int
	for range d.below(n + 1) {
		if f = append(f, d.clause(vars)); d.below(6) == 0 {
			f = append(f, f[d.below(len(f))])
		}
	}
	return f
}

// qbf returns a valid formula of up to n variables.
func (d *dice) qbf(n, clauses int) api.Qbf {
	vars := d.names(d.below(n + 1))
	return api.Qbf{Prefix: d.prefix(vars), Clauses: d.cnf(clauses, vars)}
}

// brokenCnf returns clauses that are changed at one place; they may still be a CNF.
func (d *dice) brokenCnf(f [][]int) [][]int {
	if len(f) == 0 {
		return clauses(list(d.number()))
	}
	f = slices.Clone(f)
	i := d.below(len(f))
	f[i] = d.brokenList(f[i])
	return f
}

// edge returns an edge of the first nodes, often of a late one.
func (d *dice) edge(nodes int) int {
	return 2*max(d.below(nodes), d.below(nodes)) + d.below(2)
}

// graph returns a valid graph with pairs of all sorts, and edges of it.
func (d *dice) graph(inputs, ands, edges int) (api.Aig, []int) {
	g := api.Aig{Ins: slices.Sorted(slices.Values(d.part(d.names(inputs))))}
	if len(g.Ins) > 0 && g.Ins[0] > 30000 {
		for i := range g.Ins {
			g.Ins[i] -= 100 // room for variables behind them
		}
	}
	for range d.below(ands + 1) {
		x, y := d.edge(nodesOf(g)), d.edge(nodesOf(g))
		switch d.below(8) {
		case 0:
			y = x
		case 1:
			y = x ^ 1
		case 2:
			x = d.below(2)
		}
		g.Ands = append(g.Ands, pair(x, y))
	}
	var l []int
	for range d.below(edges + 1) {
		l = append(l, d.edge(nodesOf(g)))
	}
	return g, l
}

// brokenGraph returns a graph that is changed at one place; it may still be valid.
func (d *dice) brokenGraph(g api.Aig) api.Aig {
	g = graph(slices.Clone(g.Ins), slices.Clone(g.Ands)...)
	switch k := d.below(3); {
	case k == 0 || len(g.Ands) == 0:
		g.Ins = d.brokenList(g.Ins)
	case k == 1:
		g.Ands[d.below(len(g.Ands))][d.below(2)] = d.number()
	default:
		i := d.below(len(g.Ands))
		g.Ands = slices.Delete(g.Ands, i, i+1)
	}
	return g
}
