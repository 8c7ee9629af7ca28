package enc_test

import (
	"slices"
	"testing"

	"skolem/aig"
	"skolem/api"
	"skolem/circ"
	"skolem/enc"
	"skolem/prefix"
	"skolem/sat"
	"skolem/truth"
)

// P12.4

// gatesOf returns the variables of the gates.
func gatesOf(n api.Net) []int {
	var l []int
	for _, g := range n.Gates {
		l = append(l, g.Var)
	}
	return l
}

// formulas returns Net and Half of a valid net.
func formulas(t *testing.T, n api.Net) (whole, half api.Qbf) {
	t.Helper()
	whole, e := enc.Net(n)
	half, f := enc.Half(n)
	if e != api.OK || f != api.OK {
		t.Fatalf("%v: %v, %v", n, e, f)
	}
	return whole, half
}

// meant holds Net and Half of a net against its values under an assignment: of all values of the gates' variables exactly one satisfies the clauses of Net but for the last one, and one satisfies all clauses of either exactly if the net is true.
func meant(t *testing.T, n api.Net, a []int) bool {
	t.Helper()
	whole, half := formulas(t, n)
	define := whole.Clauses[:len(whole.Clauses)-1]
	values, _ := circ.Values(n, a)
	holds, e := circ.Eval(n, a)
	found, extends, halfExtends := 0, false, false
	for _, b := range assignments(gatesOf(n)) {
		is := setOf(a, b)
		if satisfies(is, define) {
			found++
			for i, g := range n.Gates {
				if is[g.Var] != values[i] {
					t.Errorf("%v under %v: gate %d is %v", n, a, g.Var, values[i])
				}
			}
		}
		extends = extends || satisfies(is, whole.Clauses)
		halfExtends = halfExtends || satisfies(is, half.Clauses)
	}
	if found != 1 || extends != holds || halfExtends != holds || e != api.OK {
		t.Errorf("%v under %v is %v: %d extensions, Net %v, Half %v", n, a, holds, found, extends, halfExtends)
	}
	return holds
}

func TestNetMeans(t *testing.T) {
	d := dice(6)
	seen := map[bool]int{}
	for range 3000 {
		n := d.net(4, 5)
		for _, a := range assignments(variablesOf(n.Prefix)) {
			seen[meant(t, n, a)]++
		}
	}
	if seen[true] < 3000 || seen[false] < 3000 {
		t.Errorf("%v", seen)
	}
}

// TestSmallNetMeans: all nets of one gate of two variables.
func TestSmallNetMeans(t *testing.T) {
	for _, g := range gatesOver(3, 3, literals(1, 2)) {
		for _, out := range literals(1, 3) {
			for _, a := range assignments(list(1, 2)) {
				meant(t, net(blocks(all(1), some(2)), out, g), a)
			}
		}
	}
}

// TestHalfIsPart: the clauses of Half are some of those of Net, in their order, the last one among them, and its prefix lacks the gates that do not occur.
func TestHalfIsPart(t *testing.T) {
	d := dice(7)
	fewer, equal := 0, 0
	for range 5000 {
		n := d.net(6, 9)
		whole, half := formulas(t, n)
		rest := whole.Clauses
		for _, c := range half.Clauses {
			i := slices.IndexFunc(rest, func(x []int) bool { return slices.Equal(x, c) })
			if i < 0 {
				t.Fatalf("%v: %v is not part of %v", n, half.Clauses, whole.Clauses)
			}
			rest = rest[i+1:]
		}
		gone := slices.DeleteFunc(prefix.Vars(whole.Prefix), func(v int) bool {
			_, _, ok := prefix.Find(half.Prefix, v)
			return ok
		})
		if p, e := prefix.Less(whole.Prefix, gone); !prefix.Same(p, half.Prefix) || e != api.OK {
			t.Errorf("%v: %v and %v", n, whole.Prefix, half.Prefix)
		}
		occur := naiveOccurring(n)
		all := !slices.ContainsFunc(gatesOf(n), func(v int) bool { return !occur[v] || !occur[-v] })
		if all && !sameQbf(whole, half) {
			t.Errorf("%v: all gates occur with both signs, but %v and %v differ", n, whole, half)
		}
		if all {
			equal++
		}
		if len(half.Clauses) < len(whole.Clauses) {
			fewer++
		}
	}
	if fewer < 3000 || equal < 100 {
		t.Errorf("%d have fewer clauses, %d are equal", fewer, equal)
	}
}

// played returns the value of a net whose variables are chosen block by block.
func played(n api.Net, vars []int, exists []bool, a []int) bool {
	if len(vars) == 0 {
		is, _ := circ.Eval(n, slices.SortedFunc(slices.Values(a), func(x, y int) int { return variable(x) - variable(y) }))
		return is
	}
	l := played(n, vars[1:], exists[1:], append(slices.Clip(a), vars[0]))
	r := played(n, vars[1:], exists[1:], append(slices.Clip(a), -vars[0]))
	return exists[0] && (l || r) || l && r
}

// TestNetTruth: the formulas are true exactly if the net with its quantifiers is.
func TestNetTruth(t *testing.T) {
	d := dice(8)
	seen := map[bool]int{}
	for range 1000 {
		n := d.net(6, 7)
		var vars []int
		var exists []bool
		for _, b := range n.Prefix {
			for _, v := range b.Vars {
				vars, exists = append(vars, v), append(exists, b.Exists)
			}
		}
		want := played(n, vars, exists, nil)
		whole, half := formulas(t, n)
		x, e := truth.Qbf(whole)
		y, f := truth.Qbf(half)
		if (x == api.True) != want || (y == api.True) != want || e != api.OK || f != api.OK {
			t.Errorf("%v is %v: %v, %v and %v, %v", n, want, x, e, y, f)
		}
		seen[want]++
	}
	if seen[true] < 200 || seen[false] < 200 {
		t.Errorf("%v", seen)
	}
}

// solved returns the answer of layer 9.
func solved(t *testing.T, f [][]int, assume []int) api.Sat {
	t.Helper()
	slices.SortFunc(assume, func(x, y int) int { return variable(x) - variable(y) })
	r, e := sat.Solve(f, assume, api.MaxBudget)
	if r.Value == api.Unknown || e != api.OK {
		t.Fatalf("%v, %v", r.Value, e)
	}
	return r
}

// TestLargeNets: for many gates it is layer 9 that says which values there are.
func TestLargeNets(t *testing.T) {
	d := dice(9)
	seen := map[bool]int{}
	for range 60 {
		vars := mixed(&d, variables(1, 200))
		n := api.Net{Prefix: blocks(some(vars[:20]...))}
		for j := 20; j < len(vars); j++ {
			n.Gates = append(n.Gates, d.gate(vars[j], vars[:j]))
		}
		n.Out = d.literal(vars)
		whole, half := formulas(t, n)
		define := whole.Clauses[:len(whole.Clauses)-1]
		for range 4 {
			a := slices.Clone(vars[:20])
			for i := range a {
				a[i] *= 1 - 2*d.below(2)
			}
			r := solved(t, define, slices.Clone(a))
			slices.SortFunc(a, func(x, y int) int { return variable(x) - variable(y) })
			values, _ := circ.Values(n, a)
			holds, _ := circ.Eval(n, a)
			is := setOf(r.Model)
			for i, g := range n.Gates {
				if r.Value != api.True || is[g.Var] != values[i] || is[-g.Var] == values[i] {
					t.Errorf("%v: gate %d is %v", r.Value, g.Var, values[i])
				}
				other := g.Var
				if values[i] {
					other = -other
				}
				if i%9 == 0 && solved(t, define, append(slices.Clone(a), other)).Value != api.False {
					t.Errorf("gate %d may be another value than %v", g.Var, values[i])
				}
			}
			if x, y := solved(t, whole.Clauses, a).Value, solved(t, half.Clauses, a).Value; (x == api.True) != holds || (y == api.True) != holds {
				t.Errorf("%v: %v and %v", holds, x, y)
			}
			seen[holds]++
		}
	}
	if seen[true] < 50 || seen[false] < 50 {
		t.Errorf("%v", seen)
	}
}

// TestGraphMeans: the clauses of Graph are satisfied exactly by the values of the nodes, and the literals have those of the edges.
func TestGraphMeans(t *testing.T) {
	d := dice(10)
	many := 0
	for range 3000 {
		g, edges := d.graph(3, 6, 3)
		first := 40000 + d.below(20000)
		if n := len(g.Ins); n > 0 && g.Ins[n-1] < 100 && d.below(2) == 0 {
			first = g.Ins[n-1] + 1
		} else if n > 0 {
			first = max(first, g.Ins[n-1]+1)
		}
		f, lits, next, e := enc.Graph(g, edges, first)
		if e != api.OK {
			t.Fatalf("Graph(%v, %v, %d): %v", g, edges, first, e)
		}
		names, _ := naiveNames(g, edges, first)
		if next-first > 4 {
			many++
		}
		for _, a := range assignments(g.Ins) {
			for _, b := range assignments(variables(first, next-1)) {
				is := setOf(a, b)
				right := true
				for n, v := range names {
					value, _ := aig.Eval(g, 2*n, a)
					right = right && is[v] == value
				}
				if satisfies(is, f) != right {
					t.Errorf("Graph(%v, %v, %d) = %v under %v %v: %v", g, edges, first, f, a, b, right)
				}
				for i, x := range edges {
					if value, _ := aig.Eval(g, x, a); right && is[lits[i]] != value {
						t.Errorf("Graph(%v, %v, %d): %d under %v is %v", g, edges, first, lits[i], a, value)
					}
				}
			}
		}
	}
	if many < 200 {
		t.Errorf("%d have more than four variables", many)
	}
}

// TestLargeGraphs: for many Ands it is layer 9 that says which values there are.
func TestLargeGraphs(t *testing.T) {
	d := dice(11)
	for range 60 {
		g := graph(variables(1, 20))
		for range 300 {
			g.Ands = append(g.Ands, pair(d.edge(nodesOf(g)), d.edge(nodesOf(g))))
		}
		edges := variables(2*nodesOf(g)-100, 2*nodesOf(g)-1)
		f, lits, _, e := enc.Graph(g, edges, 21)
		if e != api.OK {
			t.Fatal(e)
		}
		for range 4 {
			a := d.clause(g.Ins)
			r := solved(t, f, slices.Clone(a))
			whole := slices.DeleteFunc(slices.Clone(r.Model), func(x int) bool { return variable(x) > 20 })
			is := setOf(r.Model)
			for i, x := range edges {
				value, _ := aig.Eval(g, x, whole)
				if r.Value != api.True || is[lits[i]] != value {
					t.Errorf("%v: %d is %v", r.Value, lits[i], value)
				}
				other := lits[i]
				if value {
					other = -other
				}
				if i%9 == 0 && variable(other) > 20 && solved(t, f, append(slices.Clone(whole), other)).Value != api.False {
					t.Errorf("%d may be another value than %v", lits[i], value)
				}
			}
		}
	}
}

// TestBackAndMatrixMean: both have the value of the clauses, and the graph of the net is that of the clauses.
func TestBackAndMatrixMean(t *testing.T) {
	d := dice(12)
	seen := map[bool]int{}
	for range 3000 {
		q := d.qbf(6, 6)
		vars := variablesOf(q.Prefix)
		n, e1 := enc.Back(q)
		g, edge, e2 := enc.Matrix(q.Clauses, vars)
		if e1 != api.OK || e2 != api.OK || !circ.May(n) || !aig.Reduced(g) || !slices.Equal(g.Ins, vars) {
			t.Fatalf("%v: %v, %v and %v, %v", q, n, e1, g, e2)
		}
		for _, a := range assignments(vars) {
			want := satisfies(setOf(a), q.Clauses)
			x, _ := circ.Eval(n, a)
			y, _ := aig.Eval(g, edge, a)
			if x != want || y != want {
				t.Errorf("%v under %v is %v: Back %v, Matrix %v", q, a, want, x, y)
			}
			seen[want]++
		}
		if h, at, e := aig.FromNet(n); !aig.Same(g, h) || at != edge || e != api.OK {
			t.Errorf("%v: %v, %d, but of Back %v, %d, %v", q, g, edge, h, at, e)
		}
	}
	if seen[true] < 3000 || seen[false] < 3000 {
		t.Errorf("%v", seen)
	}
}

// TestThereAndBack: the formulas of Back are as true as the formula, and so are those of the net of Matrix.
func TestThereAndBack(t *testing.T) {
	d := dice(13)
	seen := map[api.Value]int{}
	for range 1000 {
		q := d.qbf(6, 5)
		want, _ := truth.Qbf(q)
		n, _ := enc.Back(q)
		g, edge, _ := enc.Matrix(q.Clauses, variablesOf(q.Prefix))
		m, e := aig.ToNet(g, edge, q.Prefix)
		if e != api.OK {
			t.Fatalf("%v: %v", q, e)
		}
		for _, n := range []api.Net{n, m} {
			whole, half := formulas(t, n)
			if len(variablesOf(whole.Prefix)) > 16 {
				continue
			}
			x, _ := truth.Qbf(whole)
			y, _ := truth.Qbf(half)
			if x != want || y != want {
				t.Errorf("%v is %d: %v is %d and %d", q, want, n, x, y)
			}
		}
		seen[want]++
	}
	if seen[api.True] < 200 || seen[api.False] < 200 {
		t.Errorf("%v", seen)
	}
}

// TestGraphAndNet: where a net has a gate for each And of a graph, its clauses are those of the graph, and the clause of the edge.
func TestGraphAndNet(t *testing.T) {
	d := dice(14)
	same := 0
	for range 3000 {
		g, _ := d.graph(5, 12, 0)
		g.Ins = variables(1, len(g.Ins))
		c, l, _ := aig.Cone(g, list(d.edge(nodesOf(g))))
		if size, _ := aig.Size(c, l); size == 0 || size < len(c.Ands) || len(g.Ins) == 0 {
			continue
		}
		n, e := aig.ToNet(c, l[0], blocks(some(g.Ins...)))
		q, e2 := enc.Net(n)
		f, lits, next, e3 := enc.Graph(c, l, len(g.Ins)+1)
		if e != api.OK || e2 != api.OK || e3 != api.OK {
			t.Fatalf("%v: %v, %v, %v", g, e, e2, e3)
		}
		if !sameLists(q.Clauses, append(f, lits)) || next != 1+len(variablesOf(q.Prefix)) {
			t.Errorf("%v: %v, %v, %d, but of the net %v", g, f, lits, next, q)
		}
		same++
	}
	if same < 400 {
		t.Errorf("%d graphs", same)
	}
}
