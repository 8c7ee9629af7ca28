package enc_test

import (
	"slices"
	"testing"

	"skolem/aig"
	"skolem/api"
	"skolem/circ"
	"skolem/enc"
	"skolem/prefix"
)

// P12.1 to P12.3 at the limits.

// ends holds Net and Half of a net against errors (and, where there is none, against the definition).
func ends(t *testing.T, name string, n api.Net, whole, half api.Errno) {
	t.Helper()
	written(t, n)
	for _, fn := range both() {
		want := whole
		if fn.half {
			want = half
		}
		q, e := fn.call(n)
		if e != want || e != api.OK && !sameQbf(q, api.Qbf{}) || e == api.OK && !prefix.MayQbf(q) {
			t.Errorf("%s of %s: %d blocks, %d clauses, %v, not %v", fn.name, name, len(q.Prefix), len(q.Clauses), e, want)
		}
	}
}

// TestMostVariables: 1024 variables in the formula, and one more; in Half only those that occur count.
func TestMostVariables(t *testing.T) {
	// row returns a net with a prefix and a row of gates, from the last of which on down to one the gates use the one before.
	row := func(p []api.Block, used, unused int) api.Net {
		n := net(p, 1, or(2000, 1))
		for v := 2001; v < 2000+used; v++ {
			n.Gates = append(n.Gates, or(v, 1-v))
		}
		n.Out = 1999 + used
		for v := 2000 + used; v < 2000+used+unused; v++ {
			n.Gates = append(n.Gates, and(v, v-1, 1))
		}
		return n
	}
	for name, p := range map[string][]api.Block{"one block": blocks(some(variables(1, 1000)...)), "a last block that is for all": blocks(some(variables(1, 500)...), all(variables(501, 1000)...))} {
		ends(t, name+", 1023", row(p, 23, 0), api.OK, api.OK)
		ends(t, name+", 1024", row(p, 24, 0), api.OK, api.OK)
		ends(t, name+", 1025", row(p, 25, 0), api.ErrLong, api.ErrLong)
		ends(t, name+", 1024, some of which do not occur", row(p, 20, 4), api.OK, api.OK)
		ends(t, name+", 1025, one of which does not occur", row(p, 24, 1), api.ErrLong, api.OK)
		ends(t, name+", 1026, one of which does not occur", row(p, 25, 1), api.ErrLong, api.ErrLong)
		ends(t, name+", many that do not occur", row(p, 24, 2000), api.ErrLong, api.OK)
		ends(t, name+", many", row(p, 2000, 0), api.ErrLong, api.ErrLong)
	}
	full := variables(1, 1024)
	ends(t, "a full prefix", net(blocks(all(full...)), -1024), api.OK, api.OK)
	ends(t, "a full prefix, a gate that does not occur", net(blocks(all(full...)), -1024, and(2000, 1)), api.ErrLong, api.OK)
	ends(t, "a full prefix, a gate", net(blocks(some(full...)), 2000, and(2000, 1)), api.ErrLong, api.ErrLong)
	var gates []api.Gate
	for v := 1; v <= 65536; v++ {
		gates = append(gates, and(v))
	}
	ends(t, "1024 gates", net(nil, 1024, gates[:1024]...), api.OK, api.OK)
	ends(t, "1025 gates", net(nil, 1025, gates[:1025]...), api.ErrLong, api.OK)
	ends(t, "all gates", net(nil, -65536, gates...), api.ErrLong, api.OK)
}

// TestMostClauses: 20000 clauses, and one more; in Half there are fewer.
func TestMostClauses(t *testing.T) {
	p := blocks(some(variables(1, 20)...))
	in := func(n int) []int { return slices.Repeat(list(1, -2, 7, 3), n)[:n] }
	both := func(n int) []int { return slices.Repeat(list(1, -1), n)[:n] } // makes a clause less
	ends(t, "and, 19999", net(p, 30, and(30, in(19997)...)), api.OK, api.OK)
	ends(t, "and, 20000", net(p, 30, and(30, in(19998)...)), api.OK, api.OK)
	ends(t, "and, 20001", net(p, 30, and(30, in(19999)...)), api.ErrLong, api.OK)
	ends(t, "and, 20002", net(p, 30, and(30, in(20000)...)), api.ErrLong, api.ErrLong)
	ends(t, "and, negative, 20001", net(p, -30, and(30, in(19999)...)), api.ErrLong, api.OK)
	ends(t, "and, negative, 200002", net(p, -30, and(30, in(200000)...)), api.ErrLong, api.OK)
	ends(t, "and of opposites, 20000", net(p, 30, and(30, both(19999)...)), api.OK, api.OK)
	ends(t, "and of opposites, 20001", net(p, 30, and(30, both(20000)...)), api.ErrLong, api.ErrLong)
	ends(t, "and of opposites, negative", net(p, -30, and(30, both(20000)...)), api.ErrLong, api.OK)
	ends(t, "or, 20000", net(p, -30, or(30, in(19998)...)), api.OK, api.OK)
	ends(t, "or, 20001", net(p, -30, or(30, in(19999)...)), api.ErrLong, api.OK)
	ends(t, "or, 20002", net(p, -30, or(30, in(20000)...)), api.ErrLong, api.ErrLong)
	ends(t, "or, positive, 200002", net(p, 30, or(30, in(200000)...)), api.ErrLong, api.OK)
	ends(t, "or of opposites, 20000", net(p, -30, or(30, both(19999)...)), api.OK, api.OK)
	ends(t, "or of opposites, 20001", net(p, -30, or(30, both(20000)...)), api.ErrLong, api.ErrLong)
	ends(t, "with both signs, 20000", net(p, 31, and(30, in(19996)...), xor(31, 30, 30)), api.OK, api.OK)
	ends(t, "with both signs, 20001", net(p, 31, and(30, in(19997)...), xor(31, 30, 30)), api.ErrLong, api.ErrLong)
	ends(t, "not used", net(p, 1, and(30, in(200000)...)), api.ErrLong, api.OK)
	ends(t, "no room for Out", net(p, 1, and(30, in(19999)...)), api.ErrLong, api.OK)
	ends(t, "room for Out", net(p, 1, and(30, in(19998)...)), api.OK, api.OK)
}

// TestMostLiterals: 200000 literals in the clauses of Half, and one more. (In Net, three times the clauses are more than the literals.)
func TestMostLiterals(t *testing.T) {
	const inputs = 700
	p := blocks(some(variables(1, inputs)...))
	// long returns a net of ors that use all inputs and the one before, but for the first and the last one; the last one uses fewer.
	long := func(last int) api.Net {
		n := net(p, 0, or(1001, variables(1, inputs)...))
		for v := 1002; v <= 1284; v++ {
			n.Gates = append(n.Gates, or(v, append(variables(1, inputs), v-1)...))
		}
		n.Gates = append(n.Gates, or(1285, append(variables(1, last), 1284)...))
		n.Out = 1285
		return n
	}
	for last, want := range map[int]api.Errno{629: api.OK, 630: api.OK, 631: api.ErrLong, 700: api.ErrLong} {
		n := long(last)
		if got := len(slices.Concat(formulaOf(n, true).Clauses...)); got != 200000-630+last {
			t.Fatalf("%d literals", got)
		}
		ends(t, "ors", n, api.ErrLong, want)
		for i := range n.Gates { // their negatives are ands
			n.Gates[i].Kind, n.Gates[i].In = api.GateAnd, negated(n.Gates[i].In)
			if k := len(n.Gates[i].In) - 1; i > 0 {
				n.Gates[i].In[k] = -n.Gates[i].In[k]
			}
		}
		n.Out = -n.Out
		ends(t, "ands", n, api.ErrLong, want)
		n.Out = -n.Out
		ends(t, "ands, positive", n, api.ErrLong, api.ErrLong)
	}
}

// bundle returns a graph of so many Ands, of which some are of opposite edges (two clauses), the others of different ones (three).
func bundle(ands, opposite int) api.Aig {
	g := graph(list(1, 2))
	for i := range ands {
		if i < opposite {
			g.Ands = append(g.Ands, pair(2, 3))
		} else {
			g.Ands = append(g.Ands, pair(2, 5))
		}
	}
	return g
}

// edgesFrom returns the even edges of some nodes.
func edgesFrom(from, to int) []int {
	l := variables(from, to)
	for i := range l {
		l[i] *= 2
	}
	return l
}

// TestGraphMostClauses: 20000 clauses, and one more. (Three literals are the most of a clause, so there are never too many of those.)
func TestGraphMostClauses(t *testing.T) {
	for _, c := range []struct {
		ands, opposite int
		zero           bool
		want           int
	}{
		{6666, 0, false, 19998}, {6666, 0, true, 19999}, {6667, 1, false, 20000}, {6667, 1, true, 20001}, {6667, 0, false, 20001}, {6667, 2, true, 20000}, {6667, 2, false, 19999}, {10000, 10000, false, 20000}, {10000, 10000, true, 20001}, {10001, 10001, false, 20002}, {10000, 9999, false, 20001}, {60000, 0, false, 180000}, {20000, 0, true, 60001},
	} {
		g := bundle(c.ands, c.opposite)
		edges := edgesFrom(3, 2+c.ands)
		if c.zero {
			edges = append(edges, 0)
		}
		f, lits, next, e := enc.Graph(g, edges, 3)
		if c.want > 20000 {
			if len(f) > 0 || len(lits) > 0 || next != 0 || e != api.ErrLong {
				t.Errorf("%v: %d clauses, %d literals, %d, %v", c, len(f), len(lits), next, e)
			}
		} else if len(f) != c.want || len(lits) != len(edges) || next != 3+len(edges) || e != api.OK {
			t.Errorf("%v: %d clauses, %d literals, %d, %v", c, len(f), len(lits), next, e)
		}
		graphed(t, g, edges, 3)
		graphed(t, g, edges[len(edges)-100:], 3)
		refusedGraph(t, "an edge that is none behind", g, append(slices.Clip(edges), 2*nodesOf(g)), 3, api.ErrArg)
		refusedGraph(t, "an input", g, edges, 2, api.ErrArg)
	}
}

// TestGraphMostNodes: graphs of the greatest size, of which little is reached.
func TestGraphMostNodes(t *testing.T) {
	g := bundle(199997, 7)
	for _, edges := range [][]int{nil, {6}, {399999, 4}, {399998, 6, 1}, {2 * 65536}} {
		if e := graphed(t, g, edges, 3); e != api.OK {
			t.Errorf("%v: %v", edges, e)
		}
	}
	refusedGraph(t, "an edge too great", g, list(400000), 3, api.ErrArg)
	refusedGraph(t, "a node too many", bundle(199998, 7), list(6), 3, api.ErrArg)
	chain := graph(list(1, 2), pair(2, 4))
	for n := 4; n < 200000; n++ {
		chain.Ands = append(chain.Ands, pair(2+n%2, 2*n-1))
	}
	for node, want := range map[int]api.Errno{3: api.OK, 6668: api.OK, 6669: api.ErrLong, 60000: api.ErrLong, 199999: api.ErrLong} {
		if e := graphed(t, chain, list(2*node), 3); e != want {
			t.Errorf("node %d: %v", node, e)
		}
	}
	ins := graph(variables(1, 65535), pair(2, 4), pair(2, 6), pair(131070, 131072))
	graphed(t, ins, list(131072, 2*65535+1), 65536)
	refusedGraph(t, "no room for two", ins, list(131072, 131074), 65536, api.ErrLong)
}

// TestGraphManyEdges: there may be more edges than nodes.
func TestGraphManyEdges(t *testing.T) {
	edges := slices.Repeat(list(11, 2, 10, 5, 6), 100000)
	_, lits, next, e := enc.Graph(xorGraph(), edges, 5)
	if !slices.Equal(lits, slices.Repeat(list(-7, 1, 7, -4, 5), 100000)) || next != 8 || e != api.OK {
		t.Errorf("%d literals, %d, %v", len(lits), next, e)
	}
	refusedGraph(t, "one that is none behind", xorGraph(), append(edges, 12), 5, api.ErrArg)
}

// TestBackMostLiterals: 200000 literals in the net, and one more: those of the clauses, and one for each clause.
func TestBackMostLiterals(t *testing.T) {
	vars := variables(1, 1024)
	q := func(clauses, literals, more int) api.Qbf {
		f := slices.Repeat([][]int{variables(1, literals)}, clauses)
		return api.Qbf{Prefix: blocks(some(vars...)), Clauses: append(f[:clauses-1:clauses-1], variables(1, literals+more))}
	}
	for _, c := range []struct {
		q    api.Qbf
		want api.Errno
	}{
		{q(20000, 9, 0), api.OK}, {q(20000, 9, 1), api.ErrLong}, {q(20000, 9, -1), api.OK}, {q(20000, 10, 0), api.ErrLong}, {q(20000, 0, 0), api.OK}, {q(20000, 1, 0), api.OK},
		{q(200, 999, 0), api.OK}, {q(200, 999, 1), api.ErrLong}, {q(200, 1000, 0), api.ErrLong}, {q(2, 1024, 0), api.OK},
	} {
		n, e := enc.Back(c.q)
		if e != c.want || e == api.OK && (!circ.May(n) || len(n.Gates) != len(c.q.Clauses)+1 || n.Out != 1025+len(c.q.Clauses)) || e != api.OK && !circ.Same(n, api.Net{}) {
			t.Errorf("%d clauses: %d gates, Out %d, %v", len(c.q.Clauses), len(n.Gates), n.Out, e)
		}
		turnedBack(t, c.q)
	}
	if n, e := enc.Back(q(20001, 0, 0)); !circ.Same(n, api.Net{}) || e != api.ErrArg {
		t.Errorf("20001 clauses: %d gates, %v", len(n.Gates), e)
	}
}

// TestBackMostVariables: the greatest variables there can be are 21025, however the prefix lies; there are always enough.
func TestBackMostVariables(t *testing.T) {
	for _, from := range []int{1, 2, 10000, 20001, 20002, 64513} {
		q := api.Qbf{Prefix: blocks(all(variables(from, from+1023)...)), Clauses: slices.Repeat([][]int{{from}}, 20000)}
		want := 20001
		if from <= want {
			want += 1024
		}
		if n, e := enc.Back(q); n.Out != want || !circ.May(n) || e != api.OK {
			t.Errorf("from %d: Out %d, %v", from, n.Out, e)
		}
		turnedBack(t, q)
	}
}

// signs returns four clauses of the variables 1 to n, with all signs of the first two, of which no beginning is a beginning of another one's; the last ones of the last clause are left out.
func signs(n, less int) [][]int {
	rest := variables(3, n)
	sign := func(x, y int) []int { return append(list(x, 2*y), rest...) }
	f := [][]int{sign(1, 1), sign(-1, 1), sign(1, -1), sign(-1, -1)}
	f[3] = f[3][:n-less]
	return f
}

// TestMatrixMostNodes: the Ands of the clauses, and of their conjunction, fill the graph, also where little of it is left.
func TestMatrixMostNodes(t *testing.T) {
	const n = 40000
	for unused := range 3 { // 1 + 40000 inputs + 4 * 39999 + 3 = 200000
		for less := range 4 {
			f, ins := signs(n, less), variables(1, n+unused)
			m, _ := matrixOf(f, ins)
			if nodesOf(m.Aig) != 200000+unused-less {
				t.Fatalf("%d nodes", nodesOf(m.Aig))
			}
			g, edge, e := enc.Matrix(f, ins)
			switch {
			case unused > less && (!aig.Same(g, api.Aig{}) || edge != 0 || e != api.ErrLong):
				t.Errorf("%d unused, %d less: %d nodes, %d, %v", unused, less, nodesOf(g), edge, e)
			case unused <= less && (nodesOf(g) != nodesOf(m.Aig) || edge != 2*nodesOf(g)-2 || e != api.OK):
				t.Errorf("%d unused, %d less: %d nodes, %d, %v", unused, less, nodesOf(g), edge, e)
			}
			matrixed(t, f, ins)
		}
	}
	for unused, want := range []api.Errno{api.OK, api.OK, api.OK, api.OK, api.OK, api.ErrLong} { // with the empty clause in front there are no Ands for the conjunction, but those of the clauses count
		f, ins := append(clauses(nil), signs(n, 1)...), variables(1, n+unused)
		m, _ := matrixOf(f, ins)
		if nodesOf(m.Aig) != 199996+unused {
			t.Fatalf("%d nodes", nodesOf(m.Aig))
		}
		g, edge, e := enc.Matrix(f, ins)
		if e != want || edge != 0 || len(g.Ands) > 0 || (e == api.OK) != (len(g.Ins) > 0) {
			t.Errorf("the empty clause, %d unused: %d nodes, %d, %v", unused, nodesOf(g), edge, e)
		}
		matrixed(t, f, ins)
	}
	refusedMatrix(t, "too many nodes, a variable is missing", signs(n, 0), append(variables(1, n-1), variables(n+1, n+20)...), api.ErrNone)
	refusedMatrix(t, "too many nodes, then one is missing", append(signs(n, 0), list(n+1, n+30)), variables(1, n+20), api.ErrNone)
	refusedMatrix(t, "too many nodes, no CNF", append(signs(n, 0), list(2, 1)), variables(1, n+20), api.ErrArg)
}

// TestMatrixMostLiterals: 200000 literals, all variables, 20000 clauses.
func TestMatrixMostLiterals(t *testing.T) {
	vars := variables(1, 65536)
	for _, c := range []struct {
		f    [][]int
		ins  []int
		want api.Errno
	}{
		{[][]int{vars}, vars, api.OK}, {[][]int{vars, negated(vars)}, vars, api.OK}, {[][]int{vars, negated(vars), nil}, vars, api.OK}, {slices.Repeat([][]int{vars}, 3), vars, api.OK}, {slices.Repeat([][]int{vars[:50000]}, 4), vars, api.OK},
		{[][]int{vars, negated(vars), append(list(-1), vars[1:]...)}, vars, api.ErrLong}, {append(slices.Repeat([][]int{vars[:50000]}, 4), list(1)), vars, api.ErrArg},
		{slices.Repeat([][]int{variables(5, 14)}, 20000), vars, api.OK}, {slices.Repeat([][]int{{7}}, 20001), vars, api.ErrArg}, {make([][]int, 20000), nil, api.OK},
	} {
		if e := matrixed(t, c.f, c.ins); e != c.want {
			t.Errorf("%d clauses: %v, not %v", len(c.f), e, c.want)
		}
	}
}
