package aig_test

import (
	"math"
	"slices"
	"testing"

	"skolem/aig"
	"skolem/api"
)

// P0.1, and the rules R3, R5 and R6, for all functions of the layer.

// weirdLists returns lists of all sorts.
func weirdLists() [][]int {
	l := [][]int{nil, {}, {1, 2}, {1, -2}, {-1, 5}, variables(0, 15), variables(1, 16), variables(1, 17), variables(1, 65537), make([]int, 200001), slices.Repeat([]int{-7, 7}, 100001)}
	l = append(l, loose...)
	for _, x := range oddInts {
		l = append(l, []int{x}, []int{1, x, 1}, []int{x, x})
	}
	return l
}

// weirdGraphs returns graphs of all sorts.
func weirdGraphs() []api.Aig {
	l := []api.Aig{{}, {Ins: []int{}, Ands: [][2]int{}}, example(), loops(), graph(variables(1, 65536)), graph(ins(2, 5), make([][2]int, 199997)...), graph(ins(2, 5), make([][2]int, 300000)...), graph(make([]int, 300000))}
	for _, g := range notGraphs() {
		l = append(l, g)
	}
	for i, list := range weirdLists() {
		x := oddInts[i%len(oddInts)]
		l = append(l, graph(list), graph(list, pair(0, 1)), graph(ins(1, 2), pair(x, 2)), graph(ins(1, 2), pair(2, 4), pair(6, x)))
	}
	slices.SortStableFunc(l, func(a, b api.Aig) int { return nodesOf(a) - nodesOf(b) }) // a map tells its graphs in any order
	return l
}

func weirdBy() [][]api.Out {
	l := [][]api.Out{nil, {}, {{Var: 1, Edge: 2}}, {{Var: 2, Edge: 3}, {Var: 1, Edge: 0}}, make([]api.Out, 200001)}
	for i, x := range oddInts {
		l = append(l, []api.Out{{Var: 1, Edge: x}}, []api.Out{{Var: x, Edge: 2}}, []api.Out{{Var: x, Edge: oddInts[(i+5)%len(oddInts)]}, {Var: 2, Edge: 1}})
	}
	return l
}

// TestTotal calls each function with all sorts of arguments: none panics, and with an error there is no other result.
func TestTotal(t *testing.T) {
	lists, by := weirdLists(), weirdBy()
	check := func(name string, i, j int, e api.Errno, nothing bool) {
		if e != api.OK && !nothing {
			t.Errorf("%s of graph %d and list %d: %v with a result", name, i, j, e)
		}
	}
	none := func(g api.Aig, l []int) bool { return g.Ins == nil && g.Ands == nil && l == nil }
	for i, g := range weirdGraphs() {
		aig.May(g)
		aig.Reduced(g)
		for j := i % 7; j < len(lists); j += 7 {
			l, edge, put := lists[j], oddInts[(i+j)%len(oddInts)], by[(i+j/3)%len(by)]
			if j%3 == 0 {
				edge = j % 7
			}
			aig.Has(g, edge)
			is, e := aig.Eval(g, edge, l)
			check("Eval", i, j, e, !is)
			table, e := aig.Table(g, edge, l)
			check("Table", i, j, e, table == nil)
			vars, e := aig.Support(g, edge)
			check("Support", i, j, e, vars == nil)
			n, e := aig.Size(g, l)
			check("Size", i, j, e, n == 0)
			c, k, e := aig.Cone(g, l)
			check("Cone", i, j, e, none(c, k))
			c, k, e = aig.Restrict(g, ins(edge), l)
			check("Restrict", i, j, e, none(c, k))
			c, k, e = aig.Compose(g, l, put)
			check("Compose", i, j, e, none(c, k))
			c, k, v, e := aig.Join(g, l, example(), ins(edge))
			check("Join", i, j, e, none(c, k) && v == nil)
			c, k, v, e = aig.Join(example(), ins(edge), g, l)
			check("Join with it", i, j, e, none(c, k) && v == nil)
			net, e := aig.ToNet(g, edge, prefix(all(l...)))
			check("ToNet", i, j, e, net.Prefix == nil && net.Gates == nil && net.Out == 0)
			m, e := aig.New(l)
			check("New", i, j, e, m == nil)
			if j%2 == 0 {
				m, e = aig.Edit(g)
				check("Edit", i, j, e, m == nil)
			}
			totalOfMaker(t, m, g, l, edge, put)
		}
	}
}

// totalOfMaker calls the methods of a maker, which may be nil.
func totalOfMaker(t *testing.T, m *aig.Maker, g api.Aig, l []int, edge int, by []api.Out) {
	t.Helper()
	check := func(name string) func(x int, e api.Errno) {
		return func(x int, e api.Errno) {
			t.Helper()
			if e != api.OK && x != 0 || (e == api.ErrNil) != (m == nil) {
				t.Errorf("%s of %d: %d, %v", name, edge, x, e)
			}
		}
	}
	check("In")(m.In(edge))
	check("And")(m.And(edge, 2))
	check("Or")(m.Or(3, edge))
	check("Xor")(m.Xor(edge, 3))
	check("Ite")(m.Ite(2, edge, 4))
	check("All")(m.All(l))
	check("Any")(m.Any(l))
	if k, e := m.Graft(g, l, by); e != api.OK && k != nil || (e == api.ErrNil) != (m == nil) {
		t.Errorf("Graft: %v, %v", k, e)
	}
	if k, e := m.Copy(g, l); e != api.OK && k != nil || (e == api.ErrNil) != (m == nil) {
		t.Errorf("Copy: %v, %v", k, e)
	}
	if h := m.Graph(); !aig.May(h) {
		t.Errorf("Graph: %d nodes", nodesOf(h))
	}
}

// TestTotalOfNets: FromNet and ToNet of prefixes and gates of all sorts.
func TestTotalOfNets(t *testing.T) {
	for i, l := range weirdLists() {
		v := oddInts[i%len(oddInts)]
		for _, p := range [][]api.Block{nil, {}, {{}}, make([]api.Block, 100000), {{Vars: l}}, {{Vars: ins(1, 2)}, {Exists: true, Vars: l}}, {{Vars: l}, {Vars: l}}} {
			for kind := range api.GateKind(6) {
				n := net(p, v, api.Gate{Var: v, Kind: kind, In: l}, api.Gate{Var: 9, Kind: kind, In: ins(v, 1, -2)})
				if g, x, e := aig.FromNet(n); e != api.OK && (g.Ins != nil || g.Ands != nil || x != 0) {
					t.Errorf("FromNet of list %d: %v with a result", i, e)
				}
				n.Gates, n.Out = []api.Gate{{Var: 8, Kind: kind, In: l}}, 8
				if g, x, e := aig.FromNet(n); e != api.OK && (g.Ins != nil || g.Ands != nil || x != 0) {
					t.Errorf("FromNet of list %d: %v with a result", i, e)
				}
			}
			if n, e := aig.ToNet(example(), 15, p); e != api.OK && (n.Prefix != nil || n.Gates != nil || n.Out != 0) {
				t.Errorf("ToNet of list %d: %v with a result", i, e)
			}
		}
	}
	if _, _, e := aig.FromNet(net(nil, math.MinInt, make([]api.Gate, 100000)...)); e != api.ErrArg {
		t.Error(e)
	}
}

// TestTotalOfSame: graphs of all sorts are compared.
func TestTotalOfSame(t *testing.T) {
	l := weirdGraphs()
	for i, a := range l {
		for _, b := range [2]api.Aig{a, l[(i+1)%len(l)]} {
			if aig.Same(a, b) != sameGraphs(a, b) {
				t.Errorf("Same of graph %d", i)
			}
		}
	}
}

// roomy returns the list as the beginning of a longer memory, whose other elements are marks.
func roomy[E any](mark E, l ...E) []E {
	return append(slices.Clone(l), mark, mark, mark)[:len(l)]
}

// whole returns a list with all that its memory has.
func whole[E any](l []E) []E { return l[:cap(l)] }

// overwrite destroys a list together with the capacity behind it.
func overwrite[E any](l []E, mark E) {
	for i := range whole(l) {
		whole(l)[i] = mark
	}
}

func overwriteGraph(g api.Aig) {
	overwrite(g.Ins, -999)
	overwrite(g.Ands, pair(-999, -999))
}

func overwriteNet(n api.Net) {
	for _, b := range n.Prefix {
		overwrite(b.Vars, -999)
	}
	overwrite(n.Prefix, all(-999))
	for _, g := range n.Gates {
		overwrite(g.In, -999)
	}
	overwrite(n.Gates, and(-999))
}

// roomyGraph returns the graph with marks behind its lists.
func roomyGraph(g api.Aig) api.Aig {
	return api.Aig{Ins: roomy(88, g.Ins...), Ands: roomy(pair(88, 88), g.Ands...)}
}

// memoryOf returns a graph whose lists are all that their memory has.
func memoryOf(g api.Aig) api.Aig {
	return api.Aig{Ins: slices.Clone(whole(g.Ins)), Ands: slices.Clone(whole(g.Ands))}
}

// roomyNet returns a net with marks behind all lists.
func roomyNet() api.Net {
	p := roomy(all(88), all(roomy(88, 2, 1)...), some(roomy(88, 3)...))
	gates := roomy(and(88), and(4, roomy(88, 1, -2)...), or(5, roomy(88, 4, 3)...), xor(6, roomy(88, 5, 1)...), ite(7, roomy(88, 6, 4, -3)...))
	return net(p, 7, gates...)
}

// memoryOfNet returns a net whose lists are all that their memory has.
func memoryOfNet(n api.Net) api.Net {
	out := net(slices.Clone(whole(n.Prefix)), n.Out, slices.Clone(whole(n.Gates))...)
	for i := range out.Prefix {
		out.Prefix[i].Vars = slices.Clone(whole(out.Prefix[i].Vars))
	}
	for i := range out.Gates {
		out.Gates[i].In = slices.Clone(whole(out.Gates[i].In))
	}
	return out
}

// TestMemory: no function changes its arguments or what stands behind them, and what it returns is new memory.
func TestMemory(t *testing.T) {
	g, other, n := roomyGraph(example()), roomyGraph(loops()), roomyNet()
	edges, more, a, vars := roomy(88, 15, 6, 2, 0), roomy(88, 15, 4), roomy(88, -2, 4), roomy(88, 2, 1)
	by := roomy(api.Out{Var: 88, Edge: 88}, api.Out{Var: 2, Edge: 9}, api.Out{Var: 1, Edge: 5})
	gBefore, otherBefore, nBefore := memoryOf(g), memoryOf(other), memoryOfNet(n)
	edgesBefore, moreBefore, aBefore, varsBefore, byBefore := slices.Clone(whole(edges)), slices.Clone(whole(more)), slices.Clone(whole(a)), slices.Clone(whole(vars)), slices.Clone(whole(by))
	if len(gBefore.Ands) < 8 || len(nBefore.Gates[0].In) < 5 || len(byBefore) < 5 {
		t.Fatal("there are no marks")
	}
	m, m2 := mustNew(t, 1, 2, 3), mustEdit(t, g)
	destroy := func(g api.Aig, l []int, e api.Errno) bool {
		overwriteGraph(g)
		overwrite(l, -999)
		return e == api.OK
	}
	list := func(l []int, e api.Errno) bool { overwrite(l, -999); return e == api.OK }
	one := func(_ int, e api.Errno) bool { return e == api.OK }
	for name, call := range map[string]func() bool{
		"May":           func() bool { return aig.May(g) && aig.Reduced(g) && aig.Has(g, 15) && aig.Same(g, example()) },
		"Eval":          func() bool { _, e := aig.Eval(g, 15, a); return e == api.OK },
		"Table":         func() bool { l, e := aig.Table(g, 15, vars); overwrite(l, true); return e == api.OK },
		"Support":       func() bool { return list(aig.Support(g, 15)) },
		"Size":          func() bool { return one(aig.Size(g, edges)) },
		"Cone":          func() bool { return destroy(aig.Cone(g, edges)) },
		"Cone of all":   func() bool { return destroy(aig.Cone(g, ins(15, 6, 8))) },
		"Restrict":      func() bool { return destroy(aig.Restrict(g, edges, a)) },
		"by none":       func() bool { return destroy(aig.Restrict(g, edges, a[:0])) },
		"Compose":       func() bool { return destroy(aig.Compose(g, edges, by)) },
		"Join":          func() bool { c, u, v, e := aig.Join(g, edges, other, more); return destroy(c, u, e) && list(v, e) },
		"Join of twice": func() bool { c, u, v, e := aig.Join(g, edges, g, edges); return destroy(c, u, e) && list(v, e) },
		"FromNet":       func() bool { c, _, e := aig.FromNet(n); return destroy(c, nil, e) },
		"ToNet":         func() bool { r, e := aig.ToNet(other, 15, n.Prefix); overwriteNet(r); return e == api.OK },
		"ToNet of 0":    func() bool { r, e := aig.ToNet(g, 0, n.Prefix); overwriteNet(r); return e == api.OK },
		"ToNet of 4":    func() bool { r, e := aig.ToNet(g, 4, n.Prefix); overwriteNet(r); return e == api.OK },
		"All":           func() bool { return one(m.All(vars)) && one(m.Any(vars)) && one(m2.All(edges)) && one(m2.Any(edges)) },
		"Copy":          func() bool { return list(m.Copy(g, edges)) && list(m.Copy(other, more)) && list(m2.Copy(g, edges)) },
		"Graft":         func() bool { return list(m2.Graft(g, edges, by)) && list(m2.Graft(other, edges[3:], by)) },
		"Graph":         func() bool { return destroy(m.Graph(), nil, api.OK) && destroy(m2.Graph(), nil, api.OK) },
		"New": func() bool {
			k, e := aig.New(whole(vars)[:0])
			k2, e2 := aig.New(g.Ins)
			return destroy(k.Graph(), nil, e) && one(k2.And(2, 4)) && destroy(k2.Graph(), nil, e2)
		},
		"Edit": func() bool {
			k, e := aig.Edit(g)
			return one(k.And(6, 8)) && one(k.And(15, 6)) && destroy(k.Graph(), nil, e)
		},
	} {
		if !call() || !sameGraphs(memoryOf(g), gBefore) || !sameGraphs(memoryOf(other), otherBefore) || !sameNets(memoryOfNet(n), nBefore) {
			t.Errorf("%s: the graphs and the net are %v, %v, %v", name, memoryOf(g), memoryOf(other), n)
		}
		if !slices.Equal(whole(edges), edgesBefore) || !slices.Equal(whole(more), moreBefore) || !slices.Equal(whole(a), aBefore) || !slices.Equal(whole(vars), varsBefore) || !slices.Equal(whole(by), byBefore) {
			t.Errorf("%s: the lists are %v, %v, %v, %v, %v", name, edges, more, a, vars, by)
		}
	}
}

// TestMakerIsAlone: neither what it was given nor what it has returned is the maker's own.
func TestMakerIsAlone(t *testing.T) {
	l := ins(1, 2)
	m := mustNew(t, l...)
	overwrite(l, 7)
	g := roomyGraph(example())
	k := mustEdit(t, g)
	overwriteGraph(g)
	for i, c := range []struct {
		m    *aig.Maker
		want api.Aig
	}{{m, graph(ins(1, 2))}, {k, example()}} {
		first := c.m.Graph()
		if !sameGraphs(first, c.want) {
			t.Fatalf("maker %d: %v", i, first)
		}
		overwriteGraph(c.m.Graph())
		edgeIs(t, "In", 4, api.OK)(c.m.In(2))
		x, e := c.m.And(2, 5)
		y, e2 := c.m.And(2, x)
		want := api.Aig{Ins: c.want.Ins, Ands: slices.Clone(c.want.Ands)}
		if conjunction(&want, 2, 5) != x || conjunction(&want, 2, x) != y || max(e, e2) != api.OK {
			t.Errorf("maker %d: %d, %d, %v, %v", i, x, y, e, e2)
		}
		if !sameGraphs(first, c.want) || !sameGraphs(c.m.Graph(), want) {
			t.Errorf("maker %d: %v, then %v", i, first, c.m.Graph())
		}
		copied, e := c.m.Copy(want, ins(y, x))
		overwrite(copied, -999)
		by := []api.Out{{Var: 1, Edge: y}}
		grafted, e2 := c.m.Graft(want, ins(2, 3), by)
		by[0].Edge = 0
		if again, e3 := c.m.Copy(want, ins(y, x)); !slices.Equal(again, ins(y, x)) || !slices.Equal(grafted, ins(y, y+1)) || max(e, e2, e3) != api.OK {
			t.Errorf("maker %d: %v, %v", i, again, grafted)
		}
	}
}

// TestResultsShareNothing: when a list of a result is overwritten, the others stay.
func TestResultsShareNothing(t *testing.T) {
	a, b := example(), loops()
	l := ins(15, 6)
	g, u, v, e := aig.Join(a, l, b, l)
	h, wantU, wantV, _ := aig.Join(a, l, b, l)
	if e != api.OK || len(u) != 2 || len(v) != 2 {
		t.Fatal(u, v, e)
	}
	overwrite(v, -999)
	overwrite(g.Ins, -999)
	if !slices.Equal(u, wantU) || !slices.Equal(g.Ands, h.Ands) {
		t.Errorf("%v, %v in %v", u, v, g)
	}
	overwrite(u, -999)
	overwrite(g.Ands, pair(-999, -999))
	if _, u, v, _ = aig.Join(a, l, b, l); !slices.Equal(u, wantU) || !slices.Equal(v, wantV) {
		t.Errorf("%v, %v in %v", u, v, h)
	}
	same := ins(1, 2)
	for i := range 4 {
		n, e := aig.ToNet(b, 15, prefix(all(same...), some(3)))
		m, _ := aig.ToNet(b, 15, prefix(all(same...), some(3)))
		if e != api.OK || len(n.Gates) != 3 {
			t.Fatal(n, e)
		}
		if i == 3 {
			overwrite(n.Prefix[0].Vars, -999)
			n.Prefix[0].Vars = ins(1, 2)
		} else {
			overwrite(n.Gates[i].In, -999)
			n.Gates[i].In = m.Gates[i].In
		}
		if !sameNets(n, m) {
			t.Errorf("the net changes with part %d: %v", i, n)
		}
	}
}

// TestAgain: equal calls return equal results.
func TestAgain(t *testing.T) {
	dice := dice(140)
	for range 200 {
		g, h, n := dice.graph(5, 12), dice.graph(5, 12), dice.net(5, 9)
		edges, by := dice.edges(g, 4), dice.replacing(g.Ins, nodesOf(g))
		first, l, _ := aig.Compose(g, edges, by)
		joined, u, v, _ := aig.Join(g, edges, h, ins(2*len(h.Ins)+1))
		ofNet, x, _ := aig.FromNet(n)
		for range 8 {
			if again, k, _ := aig.Compose(g, edges, by); !sameGraphs(again, first) || !slices.Equal(k, l) {
				t.Errorf("Compose(%v, %v, %v): %v and %v", g, edges, by, first, again)
			}
			if again, u2, v2, _ := aig.Join(g, edges, h, ins(2*len(h.Ins)+1)); !sameGraphs(again, joined) || !slices.Equal(u, u2) || !slices.Equal(v, v2) {
				t.Errorf("Join(%v, %v, %v): %v and %v", g, edges, h, joined, again)
			}
			if again, y, _ := aig.FromNet(n); !sameGraphs(again, ofNet) || x != y {
				t.Errorf("FromNet(%v): %v and %v", n, ofNet, again)
			}
		}
	}
}
