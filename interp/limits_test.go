package interp_test

import (
	"slices"
	"testing"

	"skolem/api"
)

// P11.2 at the limits.

// wide returns clauses of 199,999 literals in all: four of the same many variables with all signs of the first two, then one with all of them, then 3 5, -3 and -5; the variables 3 and 5 are the last ones, so that no resolvent of the four is empty.
func wide() [][]int {
	const n = 39999
	all := variables(6, n+5)
	sign := func(x, y int) []int { return append([]int{6 * x, 7 * y}, all[2:]...) }
	return [][]int{sign(1, 1), sign(-1, 1), sign(1, -1), sign(-1, -1), all, {6, 10}, {-6}, {-10}}
}

// filled returns a refutation of those clauses, of which n lines in the middle make one And each by the strong rules.
func filled(n int) api.Proof {
	w := &lines{f: wide()}
	for i := range 4 {
		w.in(i)
	}
	at := map[string]int{}
	steps := []func(){
		func() { at["01"] = w.on(6, 0, 1) }, func() { at["23"] = w.on(6, 2, 3) }, func() { at["02"] = w.on(7, 0, 2) }, func() { at["13"] = w.on(7, 1, 3) },
		func() { w.on(7, at["01"], at["23"]) }, func() { w.on(6, at["02"], at["13"]) }, func() { w.on(6, 0, at["13"]) }, func() { w.on(7, 0, at["23"]) }, func() { w.on(6, at["02"], 1) },
	}
	for _, step := range steps[:n] {
		step()
	}
	w.on(10, w.on(6, w.in(5), w.in(6)), w.in(7))
	return w.proof()
}

// TestMostNodesOfClauses: the Ands of left clauses, and of resolvents on shared variables, fill the graph of Strong.
func TestMostNodesOfClauses(t *testing.T) {
	f, left, strong := wide(), []int{0, 1, 2, 3, 5}, both()[1]
	total := 0
	for _, c := range f {
		total += len(c)
	}
	if total != 199999 {
		t.Errorf("%d literals", total)
	}
	for n := range 10 {
		p := filled(n)
		g, _ := naiveEdges(f, left, p, true)
		if g.nodes() != 199993+n {
			t.Fatalf("%d lines: %d nodes", n, g.nodes())
		}
		got, edge, e := strong.made(t, f, left, p)
		switch {
		case n <= 7 && (e != api.OK || len(got.Ins) != 39999 || !slices.Equal(got.Ands, [][2]int{{3, 11}}) || edge != 80001):
			t.Errorf("%d nodes: %d Ins, %v, %d, %v", g.nodes(), len(got.Ins), got.Ands, edge, e)
		case n > 7 && (e != api.ErrLong || !isNothing(got) || edge != 0):
			t.Errorf("%d nodes: %d Ins, %v, %d, %v", g.nodes(), len(got.Ins), got.Ands, edge, e)
		}
	}
	// What comes first: an argument or a proof that is wrong, or too many nodes.
	p := filled(8)
	refused(t, "too many nodes, left twice", f, []int{0, 1, 2, 3, 5, 5}, p, api.ErrArg)
	refused(t, "too many nodes, no CNF", append(f, []int{0}), left, p, api.ErrArg)
	for name, bad := range map[string]api.Proof{"a line less": proofOf(p.Lines[:len(p.Lines)-1]...), "a line more": proofOf(append(slices.Clip(p.Lines), p.Lines[0])...), "Cubes": {Cubes: true, Lines: p.Lines}} {
		refused(t, "too many nodes, "+name, f, left, bad, api.ErrProof)
	}
	// By the other rules, and for other sides, there are not too many.
	if _, _, e := both()[0].made(t, f, left, p); e != api.OK {
		t.Errorf("Make: %v", e)
	}
	if _, _, e := strong.made(t, f, []int{4, 6, 7}, p); e != api.OK {
		t.Errorf("the other side: %v", e)
	}
}

// chain returns clauses by which each variable makes the next one true; every other one is left, so all variables are shared, but the first and the last one. Behind them are five clauses of four variables more, whose refutation makes three Ands by the rules of Make, all with its last line.
func chain(n int) (f [][]int, left []int) {
	for v := 1; v <= n; v++ {
		f = append(f, []int{-v, v + 1})
		if v%2 == 1 {
			left = append(left, v-1)
		}
	}
	p, q, r, s := n+2, n+3, n+4, n+5
	return append(f, []int{p, q}, []int{-p, r}, []int{-q}, []int{-r}, []int{p, s}), append(left, n, n+1)
}

// climber writes lines from the clauses of a chain, and knows the edges that they have by the rules of Make.
type climber struct {
	lines
	sides
	g     *naiveGraph
	edges []int
}

func newClimber(f [][]int, left []int) *climber {
	shared, _ := naiveShared(f, left)
	return &climber{lines{f: f}, sidesOf(f, left), newGraph(shared), nil}
}

// edge makes the edge of the last line.
func (c *climber) edge(line int) int {
	c.edges = append(c.edges, c.g.naiveEdge(c.list[line], c.sides, c.edges, false))
	return line
}

func (c *climber) in(at int) int { return c.edge(c.lines.in(at)) }

func (c *climber) on(piv, a, b int) int { return c.edge(c.lines.on(piv, a, b)) }

// climb writes lines by which a variable makes a later one true, for more and more variables between them, until the graph has exactly so many nodes.
func (c *climber) climb(t *testing.T, n, nodes int) {
	t.Helper()
	var from []int // by variable: the line by which it makes the one so many steps behind it true
	for i := range n {
		from = append(from, c.in(i))
	}
	one := slices.Clone(from)
	var two []int
	for step := 1; c.g.nodes() <= nodes-3; step *= 2 {
		for i := 0; i+2*step <= n && c.g.nodes() <= nodes-3; i++ {
			from[i] = c.on(i+1+step, from[i], from[i+step])
		}
		if step == 1 {
			two = slices.Clone(from)
		}
	}
	for i := 2; c.g.nodes() < nodes; i += 2 { // three steps make one And more than there is
		c.on(i+2, one[i], two[i+1])
	}
	if c.g.nodes() != nodes {
		t.Fatalf("%d nodes, not %d", c.g.nodes(), nodes)
	}
}

// end writes the refutation of the last clauses.
func (c *climber) end(n int) int {
	a := c.on(n+3, c.in(n), c.in(n+2))
	return c.on(n+2, a, c.on(n+4, c.in(n+1), c.in(n+3)))
}

// TestMostNodesOfResolvents: the Ands of resolvents on shared variables fill the graph of Make; the last line makes three more, for which there is room, or for two, one or none of them.
func TestMostNodesOfResolvents(t *testing.T) {
	const n = 19995
	f, left := chain(n)
	if len(f) != 20000 {
		t.Fatalf("%d clauses", len(f))
	}
	even := both()[0]
	for before := 199996; before <= 200000; before++ {
		c := newClimber(f, left)
		c.climb(t, n, before)
		last := c.g.nodes()
		c.end(n)
		if last != before || c.g.nodes() != before+3 || len(c.g.ins) != n+2 {
			t.Fatalf("%d nodes, then %d", last, c.g.nodes())
		}
		g, edge, e := even.made(t, f, left, c.proof())
		switch {
		case before <= 199997 && (e != api.OK || len(g.Ins) != n+2 || len(g.Ands) != 3 || edge != 2*(n+5)):
			t.Errorf("%d nodes: %d Ins, %v, %d, %v", c.g.nodes(), len(g.Ins), g.Ands, edge, e)
		case before > 199997 && (e != api.ErrLong || !isNothing(g) || edge != 0):
			t.Errorf("%d nodes: %d Ins, %v, %d, %v", c.g.nodes(), len(g.Ins), g.Ands, edge, e)
		}
	}
}

// TestMostNodesOfOthers: what the last line does not need counts too.
func TestMostNodesOfOthers(t *testing.T) {
	const n = 19995
	f, left := chain(n)
	for nodes := 199999; nodes <= 200003; nodes++ {
		c := newClimber(f, left)
		last := c.end(n)
		c.climb(t, n, nodes)
		c.edge(c.same(last))
		if c.g.nodes() != nodes {
			t.Fatalf("%d nodes", c.g.nodes())
		}
		g, _, e := both()[0].made(t, f, left, c.proof())
		if nodes <= 200000 && (e != api.OK || len(g.Ands) != 3) || nodes > 200000 && (e != api.ErrLong || !isNothing(g)) {
			t.Errorf("%d nodes: %v, %v", nodes, g.Ands, e)
		}
		if _, _, e := both()[1].made(t, f, left, c.proof()); e != api.OK && e != api.ErrLong {
			t.Errorf("Strong: %v", e)
		}
	}
}

// TestMostLines: a proof may have MaxLines lines; those of one more are none.
func TestMostLines(t *testing.T) {
	f, p := example()
	for _, n := range []int{999999, 1000000, 1000001} {
		front := slices.Repeat([]api.Line{input(0, 1, 2)}, n-len(p.Lines))
		long := proofOf(append(front, rest(p.Lines, n-len(p.Lines))...)...)
		for _, fn := range both() {
			g, edge, e := fn.call(f, []int{0, 1}, long)
			if n <= 1000000 && (!sameGraph(g, api.Aig{Ins: []int{2}}) || edge != 2 || e != api.OK) || n > 1000000 && (!isNothing(g) || edge != 0 || e != api.ErrProof) {
				t.Errorf("%s of %d lines: %v, %d, %v", fn.name, n, g, edge, e)
			}
		}
	}
}

// TestMostVariables: all variables are shared, and Strong takes them all in.
func TestMostVariables(t *testing.T) {
	all := variables(1, 65536)
	f := [][]int{all, negated(all), {}}
	w := &lines{f: f}
	w.in(0)
	w.in(2)
	for _, left := range [][]int{{0}, {1}, {0, 2}, {1, 2}} {
		for _, fn := range both() {
			g, edge, e := fn.made(t, f, left, w.proof())
			if !slices.Equal(g.Ins, all) || len(g.Ands) > 0 || edge != 2-len(left) || e != api.OK {
				t.Errorf("%s: %d Ins, %d, %v", fn.name, len(g.Ins), edge, e)
			}
		}
	}
}

// TestLongClause: a long clause is refuted literal by literal.
func TestLongClause(t *testing.T) {
	f := [][]int{variables(1, 600)}
	w := &lines{f: f}
	for v := 1; v <= 600; v++ {
		w.f = append(w.f, []int{-v})
	}
	last := w.in(0)
	for v := 1; v <= 600; v++ {
		last = w.on(v, last, w.in(v))
	}
	for _, left := range [][]int{{0}, numbers(1, 600), numbers(0, 300), numbers(301, 600)} {
		for _, fn := range both() {
			if g, edge, e := fn.made(t, w.f, left, w.proof()); e != api.OK || edge < 2 || len(g.Ands) < len(g.Ins)-1 {
				t.Errorf("%s: %d Ins, %d Ands, %d, %v", fn.name, len(g.Ins), len(g.Ands), edge, e)
			}
		}
	}
}
