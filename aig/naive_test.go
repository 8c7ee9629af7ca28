package aig_test

import (
	"slices"

	"skolem/api"
)

// The functions of this file follow the chapter's sentences word by word, without regard to time; the tests hold the package against them. Those behind naiveReduced are for valid arguments only.

func ins(v ...int) []int { return v }

func pair(a, b int) [2]int { return [2]int{a, b} }

func graph(ins []int, ands ...[2]int) api.Aig { return api.Aig{Ins: ins, Ands: ands} }

func sameGraphs(a, b api.Aig) bool {
	return slices.Equal(a.Ins, b.Ins) && slices.Equal(a.Ands, b.Ands)
}

// nodesOf returns how many nodes a graph has.
func nodesOf(g api.Aig) int { return len(g.Ins) + len(g.Ands) + 1 }

func naiveMay(g api.Aig) bool {
	for i, v := range g.Ins {
		if v < 1 || v > 65536 || i > 0 && g.Ins[i-1] >= v {
			return false
		}
	}
	for i, p := range g.Ands {
		for _, x := range p {
			if x < 0 || x > 2*(len(g.Ins)+i)+1 {
				return false
			}
		}
	}
	return nodesOf(g) <= 200000
}

func naiveHas(g api.Aig, edges ...int) bool {
	for _, x := range edges {
		if x < 0 || x > 2*nodesOf(g)-1 {
			return false
		}
	}
	return naiveMay(g)
}

func naiveReduced(g api.Aig) bool {
	for i, p := range g.Ands {
		if p[0] < 2 || p[0] >= p[1] || p[0]%2 == 0 && p[1] == p[0]+1 || slices.Contains(g.Ands[:i], p) {
			return false
		}
	}
	return naiveMay(g)
}

// contrary returns the opposite of an edge.
func contrary(x int) int {
	if x%2 == 0 {
		return x + 1
	}
	return x - 1
}

func naiveValue(g api.Aig, edge int, a []int) bool {
	n := edge / 2
	switch {
	case edge%2 == 1:
		return !naiveValue(g, edge-1, a)
	case n == 0:
		return false
	case n <= len(g.Ins):
		return slices.Contains(a, g.Ins[n-1])
	}
	p := g.Ands[n-len(g.Ins)-1]
	return naiveValue(g, p[0], a) && naiveValue(g, p[1], a)
}

// assignmentOf returns the assignment of row i of a table.
func assignmentOf(vars []int, i int) []int {
	var a []int
	for k, v := range vars {
		if i>>k%2 == 1 {
			a = append(a, v)
		}
	}
	return a
}

func naiveTable(g api.Aig, edge int, vars []int) []bool {
	var l []bool
	for i := range 1 << len(vars) {
		l = append(l, naiveValue(g, edge, assignmentOf(vars, i)))
	}
	return l
}

// naiveReached returns the nodes that edges reach, ascending.
func naiveReached(g api.Aig, edges ...int) []int {
	var l []int
	for _, x := range edges {
		n := x / 2
		l = append(l, n)
		if n > len(g.Ins) {
			p := g.Ands[n-len(g.Ins)-1]
			l = append(l, naiveReached(g, p[0], p[1])...)
		}
	}
	slices.Sort(l)
	return slices.Compact(l)
}

func naiveSupport(g api.Aig, edge int) []int {
	var l []int
	for _, n := range naiveReached(g, edge) {
		if n > 0 && n <= len(g.Ins) {
			l = append(l, g.Ins[n-1])
		}
	}
	return l
}

func naiveSize(g api.Aig, edges []int) int {
	count := 0
	for _, n := range naiveReached(g, edges...) {
		if n > len(g.Ins) {
			count++
		}
	}
	return count
}

// conjunction makes the conjunction of two edges in a graph.
func conjunction(g *api.Aig, a, b int) int {
	if a > b {
		a, b = b, a
	}
	switch {
	case a == 0:
		return 0
	case a == 1:
		return b
	case a == b:
		return a
	case contrary(a) == b:
		return 0
	}
	for i, p := range g.Ands {
		if p[0] == a && p[1] == b {
			return 2 * (len(g.Ins) + 1 + i)
		}
	}
	g.Ands = append(g.Ands, pair(a, b))
	return 2 * (nodesOf(*g) - 1)
}

func disjunction(g *api.Aig, a, b int) int {
	return contrary(conjunction(g, contrary(a), contrary(b)))
}

func exclusive(g *api.Aig, a, b int) int {
	u := conjunction(g, a, contrary(b))
	v := conjunction(g, contrary(a), b)
	return disjunction(g, u, v)
}

func choice(g *api.Aig, c, a, b int) int {
	u := conjunction(g, c, a)
	v := conjunction(g, contrary(c), b)
	return disjunction(g, u, v)
}

func conjunctionOf(g *api.Aig, l []int) int {
	x := 1
	for _, y := range l {
		x = conjunction(g, x, y)
	}
	return x
}

func disjunctionOf(g *api.Aig, l []int) int {
	var not []int
	for _, y := range l {
		not = append(not, contrary(y))
	}
	return contrary(conjunctionOf(g, not))
}

// copyInto copies what edges of a graph reach into another one.
func copyInto(into *api.Aig, g api.Aig, edges []int, image func(v int) int) []int {
	images := map[int]int{0: 0, 1: 1}
	for _, n := range naiveReached(g, edges...) {
		switch {
		case n > len(g.Ins):
			p := g.Ands[n-len(g.Ins)-1]
			images[2*n] = conjunction(into, images[p[0]], images[p[1]])
		case n > 0:
			images[2*n] = image(g.Ins[n-1])
		}
		images[2*n+1] = contrary(images[2*n])
	}
	var l []int
	for _, x := range edges {
		l = append(l, images[x])
	}
	return l
}

// inputOf returns a function that returns the edge of an input.
func inputOf(g api.Aig) func(v int) int {
	return func(v int) int { return 2*slices.Index(g.Ins, v) + 2 }
}

func naiveCone(g api.Aig, edges []int) (api.Aig, []int) {
	c := api.Aig{Ins: slices.Clone(g.Ins)}
	l := copyInto(&c, g, edges, inputOf(c))
	return c, l
}

func naiveRestrict(g api.Aig, edges, a []int) (api.Aig, []int) {
	c := api.Aig{}
	for _, v := range g.Ins {
		if !slices.Contains(a, v) && !slices.Contains(a, -v) {
			c.Ins = append(c.Ins, v)
		}
	}
	l := copyInto(&c, g, edges, func(v int) int {
		switch {
		case slices.Contains(a, v):
			return 1
		case slices.Contains(a, -v):
			return 0
		}
		return inputOf(c)(v)
	})
	return c, l
}

// putting returns the images of inputs of which some are replaced.
func putting(by []api.Out, edges []int, others func(v int) int) func(v int) int {
	return func(v int) int {
		if i := slices.IndexFunc(by, func(o api.Out) bool { return o.Var == v }); i >= 0 {
			return edges[i]
		}
		return others(v)
	}
}

func edgesOf(by []api.Out) []int {
	var l []int
	for _, o := range by {
		l = append(l, o.Edge)
	}
	return l
}

func naiveCompose(g api.Aig, edges []int, by []api.Out) (api.Aig, []int) {
	c := api.Aig{Ins: slices.Clone(g.Ins)}
	first := copyInto(&c, g, edgesOf(by), inputOf(c))
	l := copyInto(&c, g, edges, putting(by, first, inputOf(c)))
	return c, l
}

func naiveJoin(a api.Aig, x []int, b api.Aig, y []int) (api.Aig, []int, []int) {
	g := api.Aig{}
	for v := 1; v <= 65536; v++ {
		if slices.Contains(a.Ins, v) || slices.Contains(b.Ins, v) {
			g.Ins = append(g.Ins, v)
		}
	}
	u := copyInto(&g, a, x, inputOf(g))
	v := copyInto(&g, b, y, inputOf(g))
	return g, u, v
}

// naiveGraft returns the graph behind Graft, and the images; false: an input is not there.
func naiveGraft(into, g api.Aig, edges []int, by []api.Out) (api.Aig, []int, bool) {
	for _, v := range naiveSupportOf(g, edges) {
		if !slices.Contains(into.Ins, v) && !slices.ContainsFunc(by, func(o api.Out) bool { return o.Var == v }) {
			return into, nil, false
		}
	}
	into.Ands = slices.Clone(into.Ands)
	l := copyInto(&into, g, edges, putting(by, edgesOf(by), inputOf(into)))
	return into, l, true
}

func naiveSupportOf(g api.Aig, edges []int) []int {
	var l []int
	for _, x := range edges {
		l = append(l, naiveSupport(g, x)...)
	}
	return l
}

// variablesOf returns the variables of a prefix, ascending.
func variablesOf(p []api.Block) []int {
	var l []int
	for _, b := range p {
		l = append(l, b.Vars...)
	}
	slices.Sort(l)
	return l
}

func naiveFromNet(n api.Net) (api.Aig, int) {
	g := api.Aig{Ins: variablesOf(n.Prefix)}
	edge := map[int]int{}
	for i, v := range g.Ins {
		edge[v], edge[-v] = 2*i+2, 2*i+3
	}
	for _, h := range n.Gates {
		var l []int
		for _, lit := range h.In {
			l = append(l, edge[lit])
		}
		x := 0
		switch h.Kind {
		case api.GateAnd:
			x = conjunctionOf(&g, l)
		case api.GateOr:
			x = disjunctionOf(&g, l)
		case api.GateXor:
			x = exclusive(&g, l[0], l[1])
		case api.GateIte:
			x = choice(&g, l[0], l[1], l[2])
		}
		edge[h.Var], edge[-h.Var] = x, contrary(x)
	}
	c, l := naiveCone(g, []int{edge[n.Out]})
	return c, l[0]
}

// naiveToNet returns the net of an edge; false: its prefix lacks an input.
func naiveToNet(g api.Aig, edge int, p []api.Block) (api.Net, bool) {
	c, l := naiveCone(g, []int{edge})
	have := variablesOf(p)
	var free []int
	for v := 1; len(free) <= len(c.Ands); v++ {
		if !slices.Contains(have, v) {
			free = append(free, v)
		}
	}
	n := api.Net{Prefix: p}
	switch l[0] {
	case 0:
		n.Gates, n.Out = []api.Gate{{Var: free[0], Kind: api.GateAnd}}, -free[0]
		return n, true
	case 1:
		n.Gates, n.Out = []api.Gate{{Var: free[0], Kind: api.GateAnd}}, free[0]
		return n, true
	}
	literal := map[int]int{}
	for i, v := range slices.Concat(c.Ins, free[:len(c.Ands)]) {
		literal[2*i+2], literal[2*i+3] = v, -v
	}
	used := []int{l[0]}
	for i, q := range c.Ands {
		n.Gates = append(n.Gates, api.Gate{Var: free[i], Kind: api.GateAnd, In: []int{literal[q[0]], literal[q[1]]}})
		used = append(used, q[:]...)
	}
	n.Out = literal[l[0]]
	lacks := slices.ContainsFunc(naiveSupportOf(c, used), func(v int) bool { return !slices.Contains(have, v) })
	return n, !lacks
}

// sameNets reports whether two nets are equal in all fields; lists without elements are equal.
func sameNets(a, b api.Net) bool {
	return slices.EqualFunc(a.Prefix, b.Prefix, func(x, y api.Block) bool { return x.Exists == y.Exists && slices.Equal(x.Vars, y.Vars) }) &&
		slices.EqualFunc(a.Gates, b.Gates, func(x, y api.Gate) bool { return x.Var == y.Var && x.Kind == y.Kind && slices.Equal(x.In, y.In) }) && a.Out == b.Out
}
