package enc_test

import (
	"slices"

	"skolem/aig"
	"skolem/api"
	"skolem/circ"
	"skolem/prefix"
)

// The functions of this file follow the chapter's sentences word by word, without regard to time; the tests hold the package against them. What is valid is told by the lower layers.

func variable(x int) int { return max(x, -x) }

// naiveClause returns the normal list of literals, each once; false: there are a literal and its negative among them.
func naiveClause(lits ...int) ([]int, bool) {
	is := map[int]bool{}
	c := list()
	for _, x := range lits {
		if is[-x] {
			return nil, false
		}
		if !is[x] {
			is[x] = true
			c = append(c, x)
		}
	}
	slices.SortFunc(c, func(x, y int) int { return variable(x) - variable(y) })
	return c, true
}

func naiveMayGate(g api.Gate) bool {
	if g.Var < 1 || g.Var > 65536 || len(g.In) > 200000 {
		return false
	}
	for _, x := range g.In {
		if x < -65536 || x > 65536 || x == 0 || x == g.Var || x == -g.Var {
			return false
		}
	}
	switch g.Kind {
	case api.GateAnd, api.GateOr:
		return true
	case api.GateXor:
		return len(g.In) == 2
	case api.GateIte:
		return len(g.In) == 3
	}
	return false
}

func naiveGate(g api.Gate, way int) ([][]int, api.Errno) {
	if !naiveMayGate(g) || way != 0 && way != 1 && way != -1 {
		return nil, api.ErrArg
	}
	var f [][]int
	add := func(sign int, lits ...int) {
		if c, ok := naiveClause(lits...); ok && (way == 0 || way == sign) {
			f = append(f, c)
		}
	}
	x, in := g.Var, g.In
	switch g.Kind {
	case api.GateAnd:
		for _, l := range in {
			add(1, -x, l)
		}
		add(-1, append(negated(in), x)...)
	case api.GateOr:
		add(1, append(slices.Clone(in), -x)...)
		for _, l := range in {
			add(-1, x, -l)
		}
	case api.GateXor:
		a, b := in[0], in[1]
		add(1, -x, a, b)
		add(1, -x, -a, -b)
		add(-1, x, -a, b)
		add(-1, x, a, -b)
	case api.GateIte:
		c, a, b := in[0], in[1], in[2]
		add(1, -x, -c, a)
		add(1, -x, c, b)
		add(-1, x, -c, -a)
		add(-1, x, c, -b)
	}
	return f, api.OK
}

// naiveOccurring returns the literals whose variables occur in a valid net with their signs.
func naiveOccurring(n api.Net) map[int]bool {
	occur := map[int]bool{n.Out: true}
	for again := true; again; {
		again = false
		put := func(x int) {
			if !occur[x] {
				occur[x], again = true, true
			}
		}
		for _, g := range slices.Backward(n.Gates) { // in this order it takes fewer rounds
			for i, l := range g.In {
				pos, neg := occur[g.Var], occur[-g.Var]
				if g.Kind == api.GateXor || g.Kind == api.GateIte && i == 0 {
					pos, neg = pos || neg, pos || neg
				}
				if pos {
					put(l)
				}
				if neg {
					put(-l)
				}
			}
		}
	}
	return occur
}

// behind returns a prefix with an existential block behind it.
func behind(p []api.Block, vars []int) []api.Block {
	var out []api.Block
	for _, b := range p {
		out = append(out, api.Block{Exists: b.Exists, Vars: slices.Clone(b.Vars)})
	}
	switch last := len(out) - 1; {
	case len(vars) == 0:
	case last >= 0 && out[last].Exists:
		out[last].Vars = append(out[last].Vars, vars...)
	default:
		out = append(out, some(vars...))
	}
	return out
}

// formulaOf returns the formula of a valid net, without regard to limits.
func formulaOf(n api.Net, half bool) api.Qbf {
	var vars []int
	var f [][]int
	occur := naiveOccurring(n)
	for _, g := range n.Gates {
		way := 0
		switch pos, neg := occur[g.Var], occur[-g.Var]; {
		case !half || pos && neg:
		case pos:
			way = 1
		case neg:
			way = -1
		default:
			continue
		}
		vars = append(vars, g.Var)
		c, _ := naiveGate(g, way)
		f = append(f, c...)
	}
	return api.Qbf{Prefix: behind(n.Prefix, vars), Clauses: append(f, list(n.Out))}
}

// naiveFormula is Net, or Half.
func naiveFormula(n api.Net, half bool) (api.Qbf, api.Errno) {
	if !circ.May(n) {
		return api.Qbf{}, api.ErrArg
	}
	q := formulaOf(n, half)
	if len(variablesOf(q.Prefix)) > 1024 || len(q.Clauses) > 20000 || len(slices.Concat(q.Clauses...)) > 200000 {
		return api.Qbf{}, api.ErrLong
	}
	return q, api.OK
}

// variablesOf returns the variables of blocks, ascending.
func variablesOf(p []api.Block) []int {
	var l []int
	for _, b := range p {
		l = append(l, b.Vars...)
	}
	slices.Sort(l)
	return l
}

// nodesOf returns how many nodes a graph has.
func nodesOf(g api.Aig) int { return 1 + len(g.Ins) + len(g.Ands) }

// naiveReached returns the nodes that edges of a valid graph reach.
func naiveReached(g api.Aig, edges []int) map[int]bool {
	is := map[int]bool{}
	wait := slices.Clone(edges)
	for len(wait) > 0 {
		n := wait[0] / 2
		wait = wait[1:]
		if !is[n] && n > len(g.Ins) {
			p := g.Ands[n-1-len(g.Ins)]
			wait = append(wait, p[0], p[1])
		}
		is[n] = true
	}
	return is
}

// naiveNames returns the variables of the nodes: those of the inputs, and the next ones from first on.
func naiveNames(g api.Aig, edges []int, first int) (names map[int]int, next int) {
	is := naiveReached(g, edges)
	names, next = map[int]int{}, first
	for n := range nodesOf(g) {
		switch {
		case n >= 1 && n <= len(g.Ins):
			names[n] = g.Ins[n-1]
		case is[n]:
			names[n] = next
			next++
		}
	}
	return names, next
}

func naiveGraph(g api.Aig, edges []int, first int) (f [][]int, lits []int, next int, e api.Errno) {
	if !aig.May(g) || first < 1 || len(g.Ins) > 0 && first <= slices.Max(g.Ins) {
		return nil, nil, 0, api.ErrArg
	}
	for _, x := range edges {
		if x < 0 || x > 2*nodesOf(g)-1 {
			return nil, nil, 0, api.ErrArg
		}
	}
	names, next := naiveNames(g, edges, first)
	if next != first && (first > 65536 || next > 65537) {
		return nil, nil, 0, api.ErrLong
	}
	literal := func(edge int) int {
		if edge%2 == 1 {
			return -names[edge/2]
		}
		return names[edge/2]
	}
	if v, ok := names[0]; ok {
		f = append(f, list(-v))
	}
	for i, p := range g.Ands {
		if v, ok := names[1+len(g.Ins)+i]; ok {
			c, _ := naiveGate(and(v, literal(p[0]), literal(p[1])), 0)
			f = append(f, c...)
		}
	}
	if len(f) > 20000 || len(slices.Concat(f...)) > 200000 {
		return nil, nil, 0, api.ErrLong
	}
	for _, x := range edges {
		lits = append(lits, literal(x))
	}
	return f, lits, next, api.OK
}

func naiveBack(q api.Qbf) (api.Net, api.Errno) {
	if !prefix.MayQbf(q) {
		return api.Net{}, api.ErrArg
	}
	bound := variablesOf(q.Prefix)
	n := api.Net{Prefix: q.Prefix}
	v := 0
	next := func() int {
		v++
		for slices.Contains(bound, v) {
			v++
		}
		return v
	}
	var ors []int
	total := 0
	for _, c := range q.Clauses {
		x := next()
		n.Gates = append(n.Gates, or(x, c...))
		ors = append(ors, x)
		total += len(c) + 1
	}
	n.Out = next()
	n.Gates = append(n.Gates, and(n.Out, ors...))
	if n.Out > 65536 || total > 200000 {
		return api.Net{}, api.ErrLong
	}
	return n, api.OK
}

// naiveMaker is a graph of layer 6 to which Ands are appended without a limit.
type naiveMaker struct {
	api.Aig
	in map[int]int    // the edge of an input
	at map[[2]int]int // the edge of an And
}

func newMaker(ins []int) *naiveMaker {
	m := &naiveMaker{api.Aig{Ins: ins}, map[int]int{}, map[[2]int]int{}}
	for i, v := range ins {
		m.in[v] = 2*i + 2
	}
	return m
}

// edge returns the edge of a literal.
func (m *naiveMaker) edge(x int) int {
	if x < 0 {
		return m.in[-x] + 1
	}
	return m.in[x]
}

func (m *naiveMaker) and(a, b int) int {
	if a > b {
		a, b = b, a
	}
	switch {
	case a == 0:
		return 0
	case a == 1:
		return b
	case a == b:
		return a
	case b == a^1:
		return 0
	}
	if edge, ok := m.at[pair(a, b)]; ok {
		return edge
	}
	m.at[pair(a, b)] = 2 * nodesOf(m.Aig)
	m.Ands = append(m.Ands, pair(a, b))
	return m.at[pair(a, b)]
}

func (m *naiveMaker) all(l []int) int {
	x := 1
	for _, edge := range l {
		x = m.and(x, edge)
	}
	return x
}

// any returns the disjunction of a list: the opposite of the conjunction of the list of opposites.
func (m *naiveMaker) any(l []int) int {
	var not []int
	for _, edge := range l {
		not = append(not, edge^1)
	}
	return m.all(not) ^ 1
}

// cone copies what an edge reaches into a graph with the same inputs.
func (m *naiveMaker) cone(edge int) (api.Aig, int) {
	c := newMaker(m.Ins)
	is := naiveReached(m.Aig, list(edge))
	first := 1 + len(m.Ins)
	image := make([]int, nodesOf(m.Aig))
	for n := range first {
		image[n] = 2 * n
	}
	for i, p := range m.Ands {
		if is[first+i] {
			image[first+i] = c.and(image[p[0]/2]^p[0]%2, image[p[1]/2]^p[1]%2)
		}
	}
	return c.Aig, image[edge/2] ^ edge%2
}

// matrixOf makes the graph of clauses without regard to limits, and the edge in it.
func matrixOf(f [][]int, ins []int) (*naiveMaker, int) {
	m := newMaker(ins)
	var ors []int
	for _, c := range f {
		var edges []int
		for _, x := range c {
			edges = append(edges, m.edge(x))
		}
		ors = append(ors, m.any(edges))
	}
	return m, m.all(ors)
}

func naiveMayCnf(f [][]int) bool {
	for _, c := range f {
		for i, x := range c {
			if x < -65536 || x > 65536 || x == 0 || i > 0 && variable(c[i-1]) >= variable(x) {
				return false
			}
		}
	}
	return len(f) <= 20000 && len(slices.Concat(f...)) <= 200000
}

func naiveMatrix(f [][]int, ins []int) (api.Aig, int, api.Errno) {
	if !naiveMayCnf(f) || !aig.May(api.Aig{Ins: ins}) {
		return api.Aig{}, 0, api.ErrArg
	}
	is := map[int]bool{}
	for _, v := range ins {
		is[v] = true
	}
	for _, x := range slices.Concat(f...) {
		if !is[variable(x)] {
			return api.Aig{}, 0, api.ErrNone
		}
	}
	m, edge := matrixOf(f, ins)
	if nodesOf(m.Aig) > 200000 {
		return api.Aig{}, 0, api.ErrLong
	}
	g, edge := m.cone(edge)
	return g, edge, api.OK
}

func sameLists(a, b [][]int) bool { return slices.EqualFunc(a, b, slices.Equal[[]int]) }

func sameQbf(a, b api.Qbf) bool {
	return prefix.Same(a.Prefix, b.Prefix) && sameLists(a.Clauses, b.Clauses)
}

// satisfies reports whether a set of true literals has one of each clause.
func satisfies(is map[int]bool, f [][]int) bool {
	return !slices.ContainsFunc(f, func(c []int) bool {
		return !slices.ContainsFunc(c, func(x int) bool { return is[x] })
	})
}

// setOf returns the literals of some lists as a set.
func setOf(lists ...[]int) map[int]bool {
	is := map[int]bool{}
	for _, l := range lists {
		for _, x := range l {
			is[x] = true
		}
	}
	return is
}
