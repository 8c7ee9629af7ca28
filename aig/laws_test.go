package aig_test

import (
	"slices"
	"testing"

	"skolem/aig"
	"skolem/api"
	"skolem/circ"
)

// P6.5

// valueOf returns the value of an edge.
func valueOf(t *testing.T, g api.Aig, edge int, a []int) bool {
	t.Helper()
	got, e := aig.Eval(g, edge, a)
	if e != api.OK {
		t.Fatalf("Eval(%v, %d, %v) = %v", g, edge, a, e)
	}
	return got
}

// isReduced checks a result of P6.2: it is reduced, and if its edges reach all of its Ands, Cone of it is the same.
func isReduced(t *testing.T, name string, g api.Aig, edges []int) (whole bool) {
	t.Helper()
	if !aig.Reduced(g) {
		t.Errorf("%s is not reduced: %v", name, g)
	}
	size, e := aig.Size(g, edges)
	if e != api.OK {
		t.Fatalf("Size of %s: %v", name, e)
	}
	c, l, e := aig.Cone(g, edges)
	same := aig.Same(c, g) && slices.Equal(l, edges)
	if whole = size == len(g.Ands); whole && !same || e != api.OK {
		t.Errorf("Cone of %s, %v, %v: %v, %v, %v", name, g, edges, c, l, e)
	}
	return whole && len(g.Ands) > 1
}

// TestConeKeeps: the edges of Cone have the values of the old ones.
func TestConeKeeps(t *testing.T) {
	dice := dice(130)
	whole := 0
	for range 3000 {
		g := dice.graph(5, 12)
		edges := dice.edges(g, 4)
		c, l, e := aig.Cone(g, edges)
		if e != api.OK || len(l) != len(edges) {
			t.Fatalf("Cone(%v, %v): %v", g, edges, e)
		}
		if isReduced(t, "a cone", c, l) {
			whole++
		}
		for _, a := range assignmentsOf(g.Ins) {
			for i, x := range edges {
				if valueOf(t, g, x, a) != valueOf(t, c, l[i], a) {
					t.Errorf("the values of %d in %v, and of %d in %v under %v", x, g, l[i], c, a)
				}
			}
		}
	}
	if whole < 500 {
		t.Error(whole)
	}
}

// with returns the assignment of the first list, and of the second one for other variables.
func with(a, b []int) []int {
	out := slices.Clone(a)
	for _, lit := range b {
		if !slices.Contains(a, lit) && !slices.Contains(a, -lit) {
			out = append(out, lit)
		}
	}
	slices.SortFunc(out, func(x, y int) int { return max(x, -x) - max(y, -y) })
	return out
}

// TestRestrictIsTheOld: the value of an edge of Restrict is that of the old one under the assignment with that of a.
func TestRestrictIsTheOld(t *testing.T) {
	dice := dice(131)
	whole := 0
	for range 4000 {
		g := dice.graph(6, 16)
		edges := dice.edges(g, 3)
		fixed := dice.assignment(g.Ins)
		c, l, e := aig.Restrict(g, edges, fixed)
		if e != api.OK || len(l) != len(edges) || len(c.Ins) != len(g.Ins)-len(fixed) {
			t.Fatalf("Restrict(%v, %v, %v): %v, %v", g, edges, fixed, c, e)
		}
		if isReduced(t, "a restriction", c, l) {
			whole++
		}
		for _, a := range assignmentsOf(c.Ins) {
			for i, x := range edges {
				if valueOf(t, g, x, with(fixed, a)) != valueOf(t, c, l[i], a) {
					t.Errorf("the values of %d in %v, and of %d in %v under %v", x, g, l[i], c, a)
				}
			}
		}
	}
	if whole < 200 {
		t.Error(whole)
	}
}

// TestComposeIsTheOld: the value of an edge of Compose is that of the old one under the assignment in which the variables of by have the values of their edges.
func TestComposeIsTheOld(t *testing.T) {
	dice := dice(132)
	whole := 0
	for range 3000 {
		g := dice.graph(5, 9)
		edges := dice.edges(g, 3)
		by := dice.replacing(g.Ins, nodesOf(g))
		c, l, e := aig.Compose(g, edges, by)
		if e != api.OK || len(l) != len(edges) {
			t.Fatalf("Compose(%v, %v, %v): %v, %v", g, edges, by, c, e)
		}
		if isReduced(t, "a composition", c, l) {
			whole++
		}
		for _, a := range assignmentsOf(g.Ins) {
			var put []int
			for _, o := range by {
				if valueOf(t, g, o.Edge, a) {
					put = append(put, o.Var)
				} else {
					put = append(put, -o.Var)
				}
			}
			for i, x := range edges {
				if valueOf(t, g, x, with(put, a)) != valueOf(t, c, l[i], a) {
					t.Errorf("the values of %d in %v by %v, and of %d in %v under %v", x, g, by, l[i], c, a)
				}
			}
		}
	}
	if whole < 200 {
		t.Error(whole)
	}
}

// TestJoinIsBoth: the edges of Join have the values of the old ones.
func TestJoinIsBoth(t *testing.T) {
	dice := dice(133)
	whole := 0
	for range 2000 {
		a, b := dice.graph(4, 6), dice.graph(5, 6)
		x, y := dice.edges(a, 2), dice.edges(b, 2)
		g, u, v, e := aig.Join(a, x, b, y)
		if e != api.OK || len(u) != len(x) || len(v) != len(y) {
			t.Fatalf("Join(%v, %v, %v, %v): %v", a, x, b, y, e)
		}
		if isReduced(t, "a joined graph", g, slices.Concat(u, v)) {
			whole++
		}
		for _, l := range assignmentsOf(g.Ins) {
			for i := range x {
				if valueOf(t, a, x[i], l) != valueOf(t, g, u[i], l) {
					t.Errorf("the values of %d in %v, and of %d in %v under %v", x[i], a, u[i], g, l)
				}
			}
			for i := range y {
				if valueOf(t, b, y[i], l) != valueOf(t, g, v[i], l) {
					t.Errorf("the values of %d in %v, and of %d in %v under %v", y[i], b, v[i], g, l)
				}
			}
		}
	}
	if whole < 200 {
		t.Error(whole)
	}
}

// netValue returns the value of a net.
func netValue(t *testing.T, n api.Net, a []int) bool {
	t.Helper()
	got, e := circ.Eval(n, a)
	if e != api.OK {
		t.Fatalf("Eval(%v, %v) = %v", n, a, e)
	}
	return got
}

// TestNetsKeep: FromNet and ToNet keep the value, and FromNet of what ToNet makes of a reduced graph, all of which is reached, is that graph.
func TestNetsKeep(t *testing.T) {
	dice := dice(134)
	whole := 0
	for range 3000 {
		n := dice.net(5, 8)
		g, edge, e := aig.FromNet(n)
		if e != api.OK || !slices.Equal(g.Ins, variablesOf(n.Prefix)) {
			t.Fatalf("FromNet(%v) = %v, %v", n, g, e)
		}
		isWhole := isReduced(t, "the graph of a net", g, ins(edge))
		m, e := aig.ToNet(g, edge, n.Prefix)
		if e != api.OK || !circ.May(m) || !slices.EqualFunc(m.Prefix, n.Prefix, func(a, b api.Block) bool { return a.Exists == b.Exists && slices.Equal(a.Vars, b.Vars) }) {
			t.Fatalf("ToNet(%v, %d, %v) = %v, %v", g, edge, n.Prefix, m, e)
		}
		back, x, e := aig.FromNet(m)
		if isWhole {
			whole++
			if !aig.Same(back, g) || x != edge || e != api.OK {
				t.Errorf("FromNet(%v) = %v, %d, %v; it was %v, %d", m, back, x, e, g, edge)
			}
		}
		for _, a := range assignmentsOf(g.Ins) {
			want := netValue(t, n, a)
			if valueOf(t, g, edge, a) != want || netValue(t, m, a) != want || valueOf(t, back, x, a) != want {
				t.Errorf("the values of %v, of %d in %v, of %v and of %d in %v under %v", n, edge, g, m, x, back, a)
			}
		}
	}
	if whole < 500 {
		t.Error(whole)
	}
}

// TestToNetKeeps: the same for graphs of all sorts.
func TestToNetKeeps(t *testing.T) {
	dice := dice(135)
	for range 3000 {
		g := dice.graph(5, 9)
		edge := dice.edge(nodesOf(g))
		n, e := aig.ToNet(g, edge, dice.prefix(g.Ins))
		if e != api.OK || !circ.May(n) {
			t.Fatalf("ToNet(%v, %d) = %v, %v", g, edge, n, e)
		}
		for _, a := range assignmentsOf(g.Ins) {
			if valueOf(t, g, edge, a) != netValue(t, n, a) {
				t.Errorf("the values of %d in %v, and of %v under %v", edge, g, n, a)
			}
		}
	}
}

// TestMakersReduce: what a maker without Edit makes is reduced, and has the values of what its calls are called.
func TestMakersReduce(t *testing.T) {
	dice := dice(136)
	for range 1000 {
		m := mustNew(t, dice.inputs(4)...)
		for range 12 {
			g := m.Graph()
			a, b, c := dice.edge(nodesOf(g)), dice.edge(nodesOf(g)), dice.edge(nodesOf(g))
			and, e1 := m.And(a, b)
			or, e2 := m.Or(a, c)
			xor, e3 := m.Xor(b, c)
			ite, e4 := m.Ite(a, b, c)
			all, e5 := m.All(ins(a, b, c))
			some, e6 := m.Any(ins(a, b, c))
			copied, e7 := m.Copy(g, ins(a, c))
			if e := max(e1, e2, e3, e4, e5, e6, e7); e != api.OK {
				t.Fatal(e)
			}
			h := m.Graph()
			if !aig.Reduced(h) || len(g.Ands) > 0 && len(h.Ands) == 0 || !slices.Equal(copied, ins(a, c)) {
				t.Fatalf("%v behind %v is %v, %v", a, g, h, copied)
			}
			for _, l := range assignmentsOf(h.Ins) {
				x, y, z := valueOf(t, g, a, l), valueOf(t, g, b, l), valueOf(t, g, c, l)
				for i, is := range []bool{x && y, x || z, y != z, x && y || !x && z, x && y && z, x || y || z} {
					if edge := []int{and, or, xor, ite, all, some}[i]; valueOf(t, h, edge, l) != is {
						t.Errorf("%d of %d, %d, %d in %v is %d", i, a, b, c, h, edge)
					}
				}
			}
		}
	}
}
