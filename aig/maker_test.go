package aig_test

import (
	"math"
	"slices"
	"testing"

	"skolem/aig"
	"skolem/api"
)

// P6.4

func mustNew(t *testing.T, ins ...int) *aig.Maker {
	t.Helper()
	m, e := aig.New(ins)
	if m == nil || e != api.OK {
		t.Fatalf("New(%v): %v", ins, e)
	}
	return m
}

func mustEdit(t *testing.T, g api.Aig) *aig.Maker {
	t.Helper()
	m, e := aig.Edit(g)
	if m == nil || e != api.OK {
		t.Fatalf("Edit: %v", e)
	}
	return m
}

// edgeIs returns a function that holds an edge, and an error, against others.
func edgeIs(t *testing.T, name string, want int, wantE api.Errno) func(x int, e api.Errno) {
	return func(x int, e api.Errno) {
		t.Helper()
		if x != want || e != wantE {
			t.Errorf("%s: %d, %v", name, x, e)
		}
	}
}

// edgesAre returns a function that holds edges, and an error, against others.
func edgesAre(t *testing.T, name string, want []int, wantE api.Errno) func(l []int, e api.Errno) {
	return func(l []int, e api.Errno) {
		t.Helper()
		if !slices.Equal(l, want) || e != wantE {
			t.Errorf("%s: %v, %v", name, l, e)
		}
	}
}

func TestNewAndEdit(t *testing.T) {
	for _, l := range [][]int{nil, {}, {1}, {65536}, {1, 7, 65536}, variables(1, 65536)} {
		if g := mustNew(t, l...).Graph(); !sameGraphs(g, graph(l)) {
			t.Errorf("New of %d inputs: %d nodes", len(l), nodesOf(g))
		}
	}
	for name, l := range map[string][]int{
		"0": {0}, "-1": {-1}, "65537": {65537}, "an input twice": {1, 1}, "inputs that descend": {2, 1}, "0 first": {0, 1}, "-1 first": {-1, 1}, "-2 behind": {1, -2},
		"65537 behind all": variables(1, 65537), "the least int": {math.MinInt}, "the greatest int": {1, math.MaxInt}, "out of order": {1, 3, 2}, "200000 times 0": make([]int, 200000),
	} {
		if m, e := aig.New(l); m != nil || e != api.ErrArg {
			t.Errorf("New of %s: %v", name, e)
		}
	}
	for i, g := range []api.Aig{{}, graph(ins(3)), example(), loops(), graph(nil, pair(1, 0), pair(1, 0)), chain(200000), graph(ins(1, 2), pair(4, 2), pair(2, 4), pair(2, 4))} {
		if got := mustEdit(t, g).Graph(); !sameGraphs(got, g) {
			t.Errorf("Edit of graph %d: %d nodes", i, nodesOf(got))
		}
	}
	for name, g := range notGraphs() {
		if m, e := aig.Edit(g); m != nil || e != api.ErrArg {
			t.Errorf("Edit of %s: %v", name, e)
		}
	}
}

// TestExample: the first row of the chapter's section 'Examples'.
func TestExample(t *testing.T) {
	m := mustNew(t, 1, 2)
	edgeIs(t, "And of 4, 2", 6, api.OK)(m.And(4, 2))
	edgeIs(t, "of 2, 4", 6, api.OK)(m.And(2, 4))
	edgeIs(t, "of 2, 3", 0, api.OK)(m.And(2, 3))
	edgeIs(t, "Or of 2, 4", 9, api.OK)(m.Or(2, 4))
	edgeIs(t, "Xor of 2, 4", 15, api.OK)(m.Xor(2, 4))
	if g := m.Graph(); !sameGraphs(g, example()) {
		t.Error(g)
	}
}

func TestIn(t *testing.T) {
	m := mustNew(t, 2, 5, 65536)
	for _, c := range []struct {
		v, want int
		e       api.Errno
	}{
		{2, 2, api.OK}, {5, 4, api.OK}, {65536, 6, api.OK}, {1, 0, api.ErrNone}, {3, 0, api.ErrNone}, {6, 0, api.ErrNone}, {4, 0, api.ErrNone}, {65535, 0, api.ErrNone}, {65537, 0, api.ErrNone},
		{0, 0, api.ErrNone}, {-2, 0, api.ErrNone}, {-5, 0, api.ErrNone}, {math.MinInt, 0, api.ErrNone}, {math.MaxInt, 0, api.ErrNone},
	} {
		edgeIs(t, "In", c.want, c.e)(m.In(c.v))
	}
	edgeIs(t, "In of nothing", 0, api.ErrNone)(mustNew(t).In(1))
	edgeIs(t, "In of nothing", 0, api.ErrNone)(mustNew(t).In(0))
	edgeIs(t, "In of all", 131072, api.OK)(mustNew(t, variables(1, 65536)...).In(65536))
	m = mustEdit(t, example())
	edgeIs(t, "In of a graph", 4, api.OK)(m.In(2))
	edgeIs(t, "In of an And's number", 0, api.ErrNone)(m.In(3))
}

// TestConjunctions: each rule of the conjunction, with the edges in both orders.
func TestConjunctions(t *testing.T) {
	begin := graph(ins(1, 2), pair(2, 4), pair(3, 7), pair(3, 7), pair(9, 2))
	for _, c := range []struct {
		a, b, want int
		more       [][2]int
	}{
		{0, 0, 0, nil},
		{0, 1, 0, nil},
		{0, 2, 0, nil},
		{0, 3, 0, nil},
		{0, 12, 0, nil},
		{1, 1, 1, nil},
		{1, 2, 2, nil},
		{1, 3, 3, nil},
		{1, 12, 12, nil},
		{1, 13, 13, nil},
		{2, 2, 2, nil},
		{3, 3, 3, nil},
		{6, 6, 6, nil},
		{13, 13, 13, nil},
		{2, 3, 0, nil},
		{4, 5, 0, nil},
		{6, 7, 0, nil},
		{12, 13, 0, nil},
		{2, 4, 6, nil},
		{3, 7, 8, nil}, // the first one of two
		{2, 9, 14, [][2]int{{2, 9}}},
		{2, 5, 14, [][2]int{{2, 5}}},
		{3, 4, 14, [][2]int{{3, 4}}},
		{3, 5, 14, [][2]int{{3, 5}}},
		{2, 6, 14, [][2]int{{2, 6}}},
		{5, 6, 14, [][2]int{{5, 6}}},
		{8, 10, 14, [][2]int{{8, 10}}},
		{9, 10, 14, [][2]int{{9, 10}}},
		{4, 13, 14, [][2]int{{4, 13}}},
	} {
		for _, p := range [][2]int{{c.a, c.b}, {c.b, c.a}} {
			m := mustEdit(t, begin)
			for range 2 { // the second time it is there
				edgeIs(t, "And", c.want, api.OK)(m.And(p[0], p[1]))
			}
			if g := m.Graph(); !sameGraphs(g, graph(begin.Ins, slices.Concat(begin.Ands, c.more)...)) {
				t.Errorf("And of %v: %v", p, g)
			}
			m = mustEdit(t, begin)
			edgeIs(t, "Or", contrary(c.want), api.OK)(m.Or(contrary(p[0]), contrary(p[1])))
			edgeIs(t, "All", c.want, api.OK)(m.All(p[:]))
			edgeIs(t, "Any", contrary(c.want), api.OK)(m.Any(ins(contrary(p[0]), contrary(p[1]))))
			if g := m.Graph(); !sameGraphs(g, graph(begin.Ins, slices.Concat(begin.Ands, c.more)...)) {
				t.Errorf("Or, All and Any of %v: %v", p, g)
			}
		}
	}
}

func TestXorAndIte(t *testing.T) {
	const xorOf, iteOf = 1, 2
	for _, c := range []struct {
		what, c, a, b, want int
		ands                [][2]int
	}{
		{xorOf, 0, 2, 4, 13, [][2]int{{2, 5}, {3, 4}, {9, 11}}},
		{xorOf, 0, 4, 2, 13, [][2]int{{3, 4}, {2, 5}, {9, 11}}},
		{xorOf, 0, 3, 4, 13, [][2]int{{3, 5}, {2, 4}, {9, 11}}},
		{xorOf, 0, 2, 5, 13, [][2]int{{2, 4}, {3, 5}, {9, 11}}},
		{xorOf, 0, 2, 2, 0, nil},
		{xorOf, 0, 2, 3, 1, nil},
		{xorOf, 0, 3, 2, 1, nil},
		{xorOf, 0, 0, 4, 4, nil},
		{xorOf, 0, 1, 4, 5, nil},
		{xorOf, 0, 5, 0, 5, nil},
		{xorOf, 0, 5, 1, 4, nil},
		{xorOf, 0, 1, 1, 0, nil},
		{xorOf, 0, 0, 1, 1, nil},
		{iteOf, 2, 4, 6, 13, [][2]int{{2, 4}, {3, 6}, {9, 11}}},
		{iteOf, 3, 6, 4, 13, [][2]int{{3, 6}, {2, 4}, {9, 11}}},
		{iteOf, 6, 2, 5, 13, [][2]int{{2, 6}, {5, 7}, {9, 11}}},
		{iteOf, 2, 4, 4, 13, [][2]int{{2, 4}, {3, 4}, {9, 11}}},
		{iteOf, 2, 4, 5, 13, [][2]int{{2, 4}, {3, 5}, {9, 11}}},
		{iteOf, 2, 2, 4, 11, [][2]int{{3, 4}, {3, 9}}},
		{iteOf, 2, 4, 2, 8, [][2]int{{2, 4}}},
		{iteOf, 2, 3, 4, 8, [][2]int{{3, 4}}},
		{iteOf, 0, 2, 4, 4, nil},
		{iteOf, 1, 2, 4, 2, nil},
		{iteOf, 2, 0, 4, 8, [][2]int{{3, 4}}},
		{iteOf, 2, 1, 4, 11, [][2]int{{3, 4}, {3, 9}}},
		{iteOf, 2, 4, 0, 8, [][2]int{{2, 4}}},
		{iteOf, 2, 4, 1, 11, [][2]int{{2, 4}, {2, 9}}},
		{iteOf, 2, 1, 0, 2, nil},
		{iteOf, 2, 0, 1, 3, nil},
		{iteOf, 2, 1, 1, 1, nil},
	} {
		m := mustNew(t, 1, 2, 3)
		for range 2 {
			if c.what == xorOf {
				edgeIs(t, "Xor", c.want, api.OK)(m.Xor(c.a, c.b))
			} else {
				edgeIs(t, "Ite", c.want, api.OK)(m.Ite(c.c, c.a, c.b))
			}
		}
		if g := m.Graph(); !slices.Equal(g.Ands, c.ands) {
			t.Errorf("%v: %v", c, g)
		}
	}
}

func TestLists(t *testing.T) {
	for _, c := range []struct {
		l        []int
		all      int
		allAnds  [][2]int
		some     int
		someAnds [][2]int
	}{
		{nil, 1, nil, 0, nil},
		{ins(0), 0, nil, 0, nil},
		{ins(1), 1, nil, 1, nil},
		{ins(5), 5, nil, 5, nil},
		{ins(4, 4, 4), 4, nil, 4, nil},
		{ins(5, 4), 0, nil, 1, nil},
		{ins(2, 4, 6), 10, [][2]int{{2, 4}, {6, 8}}, 11, [][2]int{{3, 5}, {7, 8}}},
		{ins(6, 4, 2), 10, [][2]int{{4, 6}, {2, 8}}, 11, [][2]int{{5, 7}, {3, 8}}},
		{ins(2, 4, 2), 10, [][2]int{{2, 4}, {2, 8}}, 11, [][2]int{{3, 5}, {3, 8}}},
		{ins(2, 4, 3), 10, [][2]int{{2, 4}, {3, 8}}, 11, [][2]int{{3, 5}, {2, 8}}},
		{ins(2, 3, 4), 0, nil, 1, nil},
		{ins(1, 2, 4), 8, [][2]int{{2, 4}}, 1, nil},
		{ins(2, 0, 4), 0, nil, 9, [][2]int{{3, 5}}},
		{ins(2, 4, 0), 0, [][2]int{{2, 4}}, 9, [][2]int{{3, 5}}},
		{ins(2, 4, 1), 8, [][2]int{{2, 4}}, 1, [][2]int{{3, 5}}},
	} {
		m, k := mustNew(t, 1, 2, 3), mustNew(t, 1, 2, 3)
		for range 2 {
			edgeIs(t, "All", c.all, api.OK)(m.All(c.l))
			edgeIs(t, "Any", c.some, api.OK)(k.Any(c.l))
		}
		if g, h := m.Graph(), k.Graph(); !slices.Equal(g.Ands, c.allAnds) || !slices.Equal(h.Ands, c.someAnds) {
			t.Errorf("All and Any of %v: %v, %v", c.l, g, h)
		}
	}
}

// TestBehindOneAnother: what a maker has made is found again, by whatever call.
func TestBehindOneAnother(t *testing.T) {
	m := mustNew(t, 1, 2, 3)
	edgeIs(t, "Xor of 2, 4", 13, api.OK)(m.Xor(2, 4))
	edgeIs(t, "Xor of 4, 2", 13, api.OK)(m.Xor(4, 2))
	edgeIs(t, "Ite of 2, 5, 4", 13, api.OK)(m.Ite(2, 5, 4))
	edgeIs(t, "And of 2, 5", 8, api.OK)(m.And(2, 5))
	edgeIs(t, "Or of 8, 10", 13, api.OK)(m.Or(8, 10))
	edgeIs(t, "All of 12, 6", 14, api.OK)(m.All(ins(12, 6)))
	edgeIs(t, "Any of 7, 13", 15, api.OK)(m.Any(ins(7, 13)))
	other := graph(ins(1, 2), pair(3, 4), pair(2, 5), pair(7, 9))
	edgesAre(t, "Copy", ins(13, 1, 0, 10), api.OK)(m.Copy(other, ins(11, 1, 0, 6)))
	edgesAre(t, "Graft", ins(13), api.OK)(m.Graft(other, ins(11), []api.Out{{Var: 1, Edge: 4}, {Var: 2, Edge: 2}}))
	edgesAre(t, "Graft of one that is new", ins(16), api.OK)(m.Graft(other, ins(8), []api.Out{{Var: 2, Edge: 13}}))
	edgeIs(t, "And of it", 16, api.OK)(m.And(12, 2))
	edgeIs(t, "In", 6, api.OK)(m.In(3))
	if g := m.Graph(); !sameGraphs(g, graph(ins(1, 2, 3), pair(2, 5), pair(3, 4), pair(9, 11), pair(6, 12), pair(2, 12))) {
		t.Error(g)
	}
}

func TestGraft(t *testing.T) {
	begin := graph(ins(2, 5), pair(2, 4))
	three := graph(ins(1, 2, 3), pair(2, 5), pair(6, 8))
	for name, c := range map[string]struct {
		g     api.Aig
		edges []int
		by    []api.Out
		want  []int
		more  [][2]int
		e     api.Errno
	}{
		"nothing":                       {api.Aig{}, nil, nil, nil, nil, api.OK},
		"constants":                     {api.Aig{}, ins(1, 0, 1), nil, ins(1, 0, 1), nil, api.OK},
		"no edges":                      {three, nil, nil, nil, nil, api.OK},
		"an input":                      {graph(ins(1, 5)), ins(4, 5), nil, ins(4, 5), nil, api.OK},
		"an input at another place":     {graph(ins(1, 2, 5)), ins(7, 4), nil, ins(5, 2), nil, api.OK},
		"an input for an edge":          {graph(ins(1, 5)), ins(3, 4), []api.Out{{Var: 1, Edge: 6}}, ins(7, 4), nil, api.OK},
		"in the place of one it has":    {graph(ins(2, 5), pair(2, 4)), ins(6), []api.Out{{Var: 2, Edge: 4}}, ins(4), nil, api.OK},
		"one for the other":             {graph(ins(2, 5), pair(2, 5)), ins(6), []api.Out{{Var: 2, Edge: 4}, {Var: 5, Edge: 2}}, ins(8), [][2]int{{3, 4}}, api.OK},
		"an And that is there":          {graph(ins(2, 5), pair(4, 2)), ins(7, 6), nil, ins(7, 6), nil, api.OK},
		"three of which two are put":    {three, ins(10), []api.Out{{Var: 3, Edge: 7}, {Var: 1, Edge: 4}}, ins(10), [][2]int{{3, 4}, {7, 8}}, api.OK},
		"constants in the place":        {three, ins(10, 8), []api.Out{{Var: 3, Edge: 1}, {Var: 1, Edge: 1}}, ins(3, 3), nil, api.OK},
		"variables that nobody has":     {graph(ins(5)), ins(2), []api.Out{{Var: 9, Edge: 6}, {Var: -7, Edge: 2}, {Var: 0, Edge: 2}, {Var: 65537}}, ins(4), nil, api.OK},
		"inputs that are not reached":   {three, ins(4, 0), nil, ins(2, 0), nil, api.OK},
		"one of which is put":           {three, ins(8), []api.Out{{Var: 1, Edge: 0}}, ins(0), nil, api.OK},
		"pairs of all sorts":            {loops(), ins(14, 12), []api.Out{{Var: 1, Edge: 5}, {Var: 3, Edge: 4}}, ins(12, 8), [][2]int{{3, 5}, {4, 8}, {9, 10}}, api.OK},
		"an input that is not there":    {three, ins(10), []api.Out{{Var: 3, Edge: 7}}, nil, nil, api.ErrNone},
		"another one":                   {three, ins(2, 10), []api.Out{{Var: 1, Edge: 7}}, nil, nil, api.ErrNone},
		"none of them is":               {three, ins(6), nil, nil, nil, api.ErrNone},
		"it makes no difference":        {graph(ins(1), pair(0, 2), pair(2, 3)), ins(4), nil, nil, nil, api.ErrNone},
		"a Var twice":                   {three, ins(4), []api.Out{{Var: 3, Edge: 7}, {Var: 3, Edge: 7}}, nil, nil, api.ErrArg},
		"a Var that is none twice":      {three, ins(4), []api.Out{{Var: -1}, {Var: 3}, {Var: -1}}, nil, nil, api.ErrArg},
		"an edge of g alone":            {three, ins(4), []api.Out{{Var: 3, Edge: 8}}, nil, nil, api.ErrArg},
		"an edge of the maker alone":    {graph(ins(5)), ins(4), nil, nil, nil, api.ErrArg},
		"an edge -1":                    {three, ins(4), []api.Out{{Var: 3, Edge: -1}}, nil, nil, api.ErrArg},
		"the least int":                 {three, ins(4), []api.Out{{Var: 3, Edge: math.MinInt}}, nil, nil, api.ErrArg},
		"the greatest int":              {three, nil, []api.Out{{Var: 3, Edge: math.MaxInt}}, nil, nil, api.ErrArg},
		"edges that g does not have":    {three, ins(4, 12), nil, nil, nil, api.ErrArg},
		"negative edges":                {three, ins(4, -1), nil, nil, nil, api.ErrArg},
		"no edge and no input":          {three, ins(12, 10), nil, nil, nil, api.ErrArg},
		"a Var twice and no input":      {three, ins(10), []api.Out{{Var: 3}, {Var: 3}}, nil, nil, api.ErrArg},
		"a graph that is not valid":     {graph(ins(2), pair(2, 4)), ins(2), nil, nil, nil, api.ErrArg},
		"it is not valid, and no edges": {graph(ins(5, 2)), nil, nil, nil, nil, api.ErrArg},
	} {
		m := mustEdit(t, begin)
		for range 2 {
			edgesAre(t, "Graft of "+name, c.want, c.e)(m.Graft(c.g, c.edges, c.by))
		}
		if len(c.by) == 0 {
			edgesAre(t, "Copy of "+name, c.want, c.e)(m.Copy(c.g, c.edges))
		}
		if g := m.Graph(); !sameGraphs(g, graph(begin.Ins, slices.Concat(begin.Ands, c.more)...)) {
			t.Errorf("Graft of %s: %v", name, g)
		}
	}
	for name, g := range notGraphs() {
		m := mustEdit(t, begin)
		for _, l := range [][]int{nil, {0}} {
			edgesAre(t, "Copy of "+name, nil, api.ErrArg)(m.Copy(g, l))
			edgesAre(t, "Graft of "+name, nil, api.ErrArg)(m.Graft(g, l, []api.Out{{Var: 1, Edge: 2}}))
		}
	}
}

// TestCopyOfItself: a maker copies its own graph, which grows meanwhile.
func TestCopyOfItself(t *testing.T) {
	m := mustEdit(t, graph(ins(1, 2), pair(4, 2), pair(6, 3)))
	edgesAre(t, "Copy", ins(12, 10), api.OK)(m.Copy(m.Graph(), ins(8, 6)))
	edgesAre(t, "Graft", ins(15), api.OK)(m.Graft(m.Graph(), ins(7), []api.Out{{Var: 1, Edge: 8}}))
	if g := m.Graph(); !sameGraphs(g, graph(ins(1, 2), pair(4, 2), pair(6, 3), pair(2, 4), pair(3, 10), pair(4, 8))) {
		t.Error(g)
	}
}

// TestWrongEdges: edges that the maker's graph does not have change nothing.
func TestWrongEdges(t *testing.T) {
	m := mustEdit(t, example())
	for _, x := range []int{16, 17, 18, -1, -2, math.MinInt, math.MaxInt} {
		for _, y := range []int{0, 1, 2, 15, x} {
			edgeIs(t, "And", 0, api.ErrArg)(m.And(x, y))
			edgeIs(t, "And", 0, api.ErrArg)(m.And(y, x))
			edgeIs(t, "Or", 0, api.ErrArg)(m.Or(x, y))
			edgeIs(t, "Or", 0, api.ErrArg)(m.Or(y, x))
			edgeIs(t, "Xor", 0, api.ErrArg)(m.Xor(x, y))
			edgeIs(t, "Xor", 0, api.ErrArg)(m.Xor(y, x))
			edgeIs(t, "Ite", 0, api.ErrArg)(m.Ite(x, y, 2))
			edgeIs(t, "Ite", 0, api.ErrArg)(m.Ite(y, x, 2))
			edgeIs(t, "Ite", 0, api.ErrArg)(m.Ite(3, y, x))
			edgeIs(t, "All", 0, api.ErrArg)(m.All(ins(y, x, 2)))
			edgeIs(t, "All", 0, api.ErrArg)(m.All(ins(x)))
			edgeIs(t, "Any", 0, api.ErrArg)(m.Any(ins(y, 2, x)))
			edgeIs(t, "Any", 0, api.ErrArg)(m.Any(ins(x)))
		}
	}
	if g := m.Graph(); !sameGraphs(g, example()) {
		t.Error(g)
	}
}

// TestNoMaker: makers that are nil or zero, or are copies of one, are none, whatever the arguments are.
func TestNoMaker(t *testing.T) {
	m := mustNew(t, 1, 2)
	other := *m
	for name, no := range map[string]*aig.Maker{"nil": nil, "zero": {}, "a copy": &other} {
		for _, x := range []int{0, 2, 6, -1} {
			edgeIs(t, "In of "+name, 0, api.ErrNil)(no.In(x))
			edgeIs(t, "And of "+name, 0, api.ErrNil)(no.And(x, 0))
			edgeIs(t, "Or of "+name, 0, api.ErrNil)(no.Or(0, x))
			edgeIs(t, "Xor of "+name, 0, api.ErrNil)(no.Xor(x, x))
			edgeIs(t, "Ite of "+name, 0, api.ErrNil)(no.Ite(x, 0, 1))
			edgeIs(t, "All of "+name, 0, api.ErrNil)(no.All(ins(x)))
			edgeIs(t, "Any of "+name, 0, api.ErrNil)(no.Any(ins(x)))
			edgesAre(t, "Copy of "+name, nil, api.ErrNil)(no.Copy(example(), ins(x)))
			edgesAre(t, "Graft of "+name, nil, api.ErrNil)(no.Graft(example(), ins(x), []api.Out{{Var: 1}}))
		}
		edgeIs(t, "All of nothing of "+name, 0, api.ErrNil)(no.All(nil))
		edgeIs(t, "Any of nothing of "+name, 0, api.ErrNil)(no.Any(nil))
		edgesAre(t, "Copy of nothing of "+name, nil, api.ErrNil)(no.Copy(api.Aig{}, nil))
		edgesAre(t, "Copy of a wrong graph of "+name, nil, api.ErrNil)(no.Copy(graph(ins(0)), nil))
		if g := no.Graph(); g.Ins != nil || g.Ands != nil {
			t.Errorf("Graph of %s: %v", name, g)
		}
	}
	edgeIs(t, "And of the one that was copied", 6, api.OK)(m.And(2, 4))
}

// TestMakerAtLimit: exactly 200000 nodes, and a call that would get more, behind which the graph is as it was.
func TestMakerAtLimit(t *testing.T) {
	full := chain(200000)
	m := mustEdit(t, full)
	cone := graph(ins(1, 2), pair(4, 3))
	for range 2 {
		edgeIs(t, "And", 0, api.ErrLong)(m.And(4, 7))
		edgeIs(t, "Or", 0, api.ErrLong)(m.Or(4, 7))
		edgeIs(t, "Xor", 0, api.ErrLong)(m.Xor(4, 6))
		edgeIs(t, "Ite", 0, api.ErrLong)(m.Ite(4, 6, 8))
		edgeIs(t, "All", 0, api.ErrLong)(m.All(ins(6, 4, 2)))
		edgeIs(t, "All that would be false", 0, api.ErrLong)(m.All(ins(6, 4, 0)))
		edgeIs(t, "Any", 0, api.ErrLong)(m.Any(ins(6, 4)))
		edgeIs(t, "Any that would be true", 0, api.ErrLong)(m.Any(ins(6, 4, 1)))
		edgesAre(t, "Copy", nil, api.ErrLong)(m.Copy(cone, ins(2, 6)))
		edgesAre(t, "Graft", nil, api.ErrLong)(m.Graft(cone, ins(6, 0), []api.Out{{Var: 1, Edge: 4}, {Var: 2, Edge: 7}}))
		edgeIs(t, "And of a wrong edge", 0, api.ErrArg)(m.And(4, 400000))
		edgesAre(t, "Copy of a wrong edge", nil, api.ErrArg)(m.Copy(cone, ins(6, 8)))
		edgesAre(t, "Copy of no input", nil, api.ErrNone)(m.Copy(graph(ins(2, 3), pair(2, 4)), ins(6)))
		edgeIs(t, "And that is there", 6, api.OK)(m.And(4, 2))
		edgeIs(t, "the last one", 399998, api.OK)(m.And(399997, 3))
		edgeIs(t, "And of opposites", 0, api.OK)(m.And(399998, 399999))
		edgeIs(t, "Xor of a constant", 399999, api.OK)(m.Xor(399998, 1))
		edgesAre(t, "Copy of what is there", ins(399999, 6), api.OK)(m.Copy(full, ins(399999, 6)))
		edgesAre(t, "Graft of what is there", ins(6), api.OK)(m.Graft(cone, ins(6), []api.Out{{Var: 1, Edge: 5}, {Var: 2, Edge: 2}}))
		if g := m.Graph(); !sameGraphs(g, full) {
			t.Errorf("%d nodes", nodesOf(g))
		}
	}
	m = mustNew(t, variables(1, 65536)...)
	for x := 131074; x < 400000; x += 2 {
		if got, e := m.And(3, x-2); got != x || e != api.OK {
			t.Fatalf("And number %d: %d, %v", x, got, e)
		}
	}
	edgeIs(t, "And of all inputs", 0, api.ErrLong)(m.And(3, 399998))
	edgeIs(t, "And that is there", 399998, api.OK)(m.And(399996, 3))
}

// TestLittleRoom: there is room for a part of what is to be made; that part is not remembered either.
func TestLittleRoom(t *testing.T) {
	begin := chain(199998)
	other := graph(ins(1, 2), pair(3, 5), pair(2, 5), pair(7, 9))
	for name, call := range map[string]func(m *aig.Maker) ([]int, api.Errno){
		"Xor":   func(m *aig.Maker) ([]int, api.Errno) { x, e := m.Xor(5, 7); return ins(x), e },
		"Ite":   func(m *aig.Maker) ([]int, api.Errno) { x, e := m.Ite(5, 6, 8); return ins(x), e },
		"All":   func(m *aig.Maker) ([]int, api.Errno) { x, e := m.All(ins(5, 6, 8, 10)); return ins(x), e },
		"Any":   func(m *aig.Maker) ([]int, api.Errno) { x, e := m.Any(ins(4, 7, 8, 10)); return ins(x), e },
		"Copy":  func(m *aig.Maker) ([]int, api.Errno) { return m.Copy(other, ins(10)) },
		"Graft": func(m *aig.Maker) ([]int, api.Errno) { return m.Graft(other, ins(10), []api.Out{{Var: 1, Edge: 7}}) },
	} {
		m := mustEdit(t, begin)
		before := m.Graph()
		for range 2 {
			if l, e := call(m); len(l) > 0 && l[0] > 0 || e != api.ErrLong {
				t.Errorf("%s: %v, %v", name, l, e)
			}
			if g := m.Graph(); !sameGraphs(g, begin) || !sameGraphs(before, begin) {
				t.Errorf("%s: %d nodes", name, nodesOf(g))
			}
		}
		edgeIs(t, "And behind "+name, 399996, api.OK)(m.And(5, 6))
		edgeIs(t, "another one behind "+name, 399998, api.OK)(m.And(3, 5))
		if l, e := call(m); len(l) > 0 && l[0] > 0 || e != api.ErrLong {
			t.Errorf("%s again: %v, %v", name, l, e)
		}
		if g := m.Graph(); !slices.Equal(g.Ands[199995:], [][2]int{{5, 6}, {3, 5}}) || nodesOf(g) != 200000 {
			t.Errorf("%s: %v", name, g.Ands[199995:])
		}
	}
	m := mustEdit(t, chain(199997))
	edgeIs(t, "Xor with room for it", 399999, api.OK)(m.Xor(5, 7))
	edgeIs(t, "Xor that is there", 399999, api.OK)(m.Xor(5, 7))
	m = mustEdit(t, begin)
	edgesAre(t, "Copy with room for it", ins(399996, 399998), api.OK)(m.Copy(other, ins(6, 8)))
}

// step makes one call of a maker, and the same of a graph by the chapter's words.
func step(d *dice, m *aig.Maker, g *api.Aig) (name string, got []int, e api.Errno, want []int, wantE api.Errno) {
	l := d.edges(*g, 4)
	l = append(l, d.edge(nodesOf(*g)), d.edge(nodesOf(*g)), d.edge(nodesOf(*g)))
	if d.below(10) == 0 {
		l[d.below(len(l))] = d.number()
	}
	one := func(name string, x int, e api.Errno, edges []int, work func() int) (string, []int, api.Errno, []int, api.Errno) {
		if !naiveHas(*g, edges...) {
			return name, ins(x), e, ins(0), api.ErrArg
		}
		return name, ins(x), e, ins(work()), api.OK
	}
	switch d.below(7) {
	case 0:
		x, e := m.And(l[0], l[1])
		return one("And", x, e, l[:2], func() int { return conjunction(g, l[0], l[1]) })
	case 1:
		x, e := m.Or(l[0], l[1])
		return one("Or", x, e, l[:2], func() int { return disjunction(g, l[0], l[1]) })
	case 2:
		x, e := m.Xor(l[0], l[1])
		return one("Xor", x, e, l[:2], func() int { return exclusive(g, l[0], l[1]) })
	case 3:
		x, e := m.Ite(l[0], l[1], l[2])
		return one("Ite", x, e, l[:3], func() int { return choice(g, l[0], l[1], l[2]) })
	case 4:
		x, e := m.All(l)
		return one("All", x, e, l, func() int { return conjunctionOf(g, l) })
	case 5:
		x, e := m.Any(l)
		return one("Any", x, e, l, func() int { return disjunctionOf(g, l) })
	}
	other := d.graph(6, 5)
	by, edges := d.replacing(append(ins(-5, 0, 7), other.Ins...), nodesOf(*g)), d.edges(other, 3)
	got, e = m.Graft(other, edges, by)
	behind, want, ok := naiveGraft(*g, other, edges, by)
	if !ok {
		return "Graft", got, e, nil, api.ErrNone
	}
	*g = behind
	return "Graft", got, e, want, api.OK
}

func TestMakerOfAllSorts(t *testing.T) {
	dice := dice(120)
	count := map[api.Errno]int{}
	for i := range 2000 {
		g := dice.graph(6, 5)
		m := mustEdit(t, g)
		if i%2 == 0 {
			g.Ands = nil
			m = mustNew(t, g.Ins...)
		}
		for range 12 {
			name, got, e, want, wantE := step(&dice, m, &g)
			if !slices.Equal(got, want) || e != wantE || !sameGraphs(m.Graph(), g) {
				t.Fatalf("%s: %v, %v instead of %v, %v, %v", name, got, e, want, wantE, g)
			}
			count[e]++
		}
	}
	if count[api.OK] < 10000 || count[api.ErrArg] < 300 || count[api.ErrNone] < 300 {
		t.Error(count)
	}
}
