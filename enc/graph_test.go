package enc_test

import (
	"math"
	"slices"
	"testing"

	"skolem/api"
	"skolem/enc"
)

// P12.2

// graphed holds Graph against the definition.
func graphed(t *testing.T, g api.Aig, edges []int, first int) api.Errno {
	t.Helper()
	f, lits, next, e := enc.Graph(g, edges, first)
	wantF, wantLits, wantNext, err := naiveGraph(g, edges, first)
	if !sameLists(f, wantF) || !slices.Equal(lits, wantLits) || next != wantNext || e != err {
		t.Errorf("Graph(%v, %v, %d) = %v, %v, %d, %v, not %v, %v, %d, %v", g, edges, first, f, lits, next, e, wantF, wantLits, wantNext, err)
	}
	return e
}

// refusedGraph holds Graph against an error.
func refusedGraph(t *testing.T, name string, g api.Aig, edges []int, first int, err api.Errno) {
	t.Helper()
	if f, lits, next, e := enc.Graph(g, edges, first); len(f) > 0 || len(lits) > 0 || next != 0 || e != err {
		t.Errorf("%s: Graph of %d nodes, %v, %d = %v, %v, %d, %v, not %v", name, nodesOf(g), edges, first, f, lits, next, e, err)
	}
}

// xorGraph has the Ands of 1 xor 4: the edges 6, 8 and 10, whose opposite is the xor.
func xorGraph() api.Aig { return graph(list(1, 4), pair(2, 5), pair(3, 4), pair(7, 9)) }

func TestGraph(t *testing.T) {
	and := graph(list(1, 2), pair(2, 5))
	for name, c := range map[string]struct {
		g     api.Aig
		edges []int
		first int
		f     [][]int
		lits  []int
		next  int
	}{
		"the chapter's example":              {and, list(7), 3, clauses(list(1, -3), list(-2, -3), list(-1, 2, 3)), list(-3), 4},
		"the chapter's other example":        {graph(nil), list(1), 7, clauses(list(-7)), list(-7), 8},
		"no edges":                           {and, nil, 3, nil, nil, 3},
		"no edges, a later first":            {and, nil, 30, nil, nil, 30},
		"no edges, MaxVar":                   {and, nil, 65536, nil, nil, 65536},
		"no edges, behind MaxVar":            {and, nil, 65537, nil, nil, 65537},
		"no edges, the greatest int":         {and, nil, math.MaxInt, nil, nil, math.MaxInt},
		"nothing":                            {graph(nil), nil, 1, nil, nil, 1},
		"an input":                           {and, list(2), 3, nil, list(1), 3},
		"inputs alone":                       {and, list(4, 3, 2, 5, 4), 9, nil, list(2, -1, 1, -2, 2), 9},
		"inputs alone, behind MaxVar":        {and, list(5), 70000, nil, list(-2), 70000},
		"false":                              {and, list(0), 3, clauses(list(-3)), list(3), 4},
		"true":                               {and, list(1), 3, clauses(list(-3)), list(-3), 4},
		"false and true":                     {and, list(1, 0, 1), 5, clauses(list(-5)), list(-5, 5, -5), 6},
		"false and an input":                 {and, list(4, 0), 3, clauses(list(-3)), list(2, 3), 4},
		"an And, even":                       {and, list(6), 3, clauses(list(1, -3), list(-2, -3), list(-1, 2, 3)), list(3), 4},
		"an And, even and odd":               {and, list(6, 7, 6), 5, clauses(list(1, -5), list(-2, -5), list(-1, 2, 5)), list(5, -5, 5), 6},
		"an And and an input":                {and, list(4, 7), 3, clauses(list(1, -3), list(-2, -3), list(-1, 2, 3)), list(2, -3), 4},
		"an And and false":                   {and, list(7, 1), 3, clauses(list(-3), list(1, -4), list(-2, -4), list(-1, 2, 4)), list(-4, -3), 5},
		"a whole graph":                      {xorGraph(), list(11), 5, clauses(list(1, -5), list(-4, -5), list(-1, 4, 5), list(-1, -6), list(4, -6), list(1, -4, 6), list(-5, -7), list(-6, -7), list(5, 6, 7)), list(-7), 8},
		"Ands that are not reached":          {xorGraph(), list(8), 5, clauses(list(-1, -5), list(4, -5), list(1, -4, 5)), list(5), 6},
		"two Ands, the later one first":      {xorGraph(), list(9, 6), 8, clauses(list(1, -8), list(-4, -8), list(-1, 4, 8), list(-1, -9), list(4, -9), list(1, -4, 9)), list(-9, 8), 10},
		"an input behind first's greatest":   {graph(list(1, 65535)), list(4), 65536, nil, list(65535), 65536},
		"an And between inputs' gaps":        {graph(list(3, 8), pair(2, 4)), list(6), 9, clauses(list(3, -9), list(8, -9), list(-3, -8, 9)), list(9), 10},
		"an And of equal edges":              {graph(list(1), pair(2, 2)), list(4), 2, clauses(list(1, -2), list(1, -2), list(-1, 2)), list(2), 3},
		"an And of equal odd edges":          {graph(list(1), pair(3, 3)), list(5), 2, clauses(list(-1, -2), list(-1, -2), list(1, 2)), list(-2), 3},
		"an And of opposite edges":           {graph(list(1), pair(2, 3)), list(4), 2, clauses(list(1, -2), list(-1, -2)), list(2), 3},
		"an And of opposite edges, turned":   {graph(list(1), pair(3, 2)), list(5), 4, clauses(list(-1, -4), list(1, -4)), list(-4), 5},
		"an And of edges that descend":       {graph(list(1, 2), pair(4, 3)), list(6), 3, clauses(list(2, -3), list(-1, -3), list(1, -2, 3)), list(3), 4},
		"an And of false":                    {graph(list(1), pair(0, 2)), list(4), 2, clauses(list(-2), list(2, -3), list(1, -3), list(-1, -2, 3)), list(3), 4},
		"an And of true":                     {graph(list(1), pair(2, 1)), list(4), 2, clauses(list(-2), list(1, -3), list(-2, -3), list(-1, 2, 3)), list(3), 4},
		"an And of false and true":           {graph(nil, pair(0, 1)), list(2), 1, clauses(list(-1), list(1, -2), list(-1, -2)), list(2), 3},
		"an And of false and false":          {graph(nil, pair(0, 0)), list(3), 1, clauses(list(-1), list(1, -2), list(1, -2), list(-1, 2)), list(-2), 3},
		"an And of Ands, equal ones":         {graph(list(1, 2), pair(2, 4), pair(2, 4), pair(6, 8), pair(7, 9)), list(10), 3, clauses(list(1, -3), list(2, -3), list(-1, -2, 3), list(1, -4), list(2, -4), list(-1, -2, 4), list(3, -5), list(4, -5), list(-3, -4, 5)), list(5), 6},
		"an And that is reached through two": {graph(list(1, 2), pair(3, 5), pair(6, 3), pair(6, 5), pair(9, 11)), list(12, 8), 3, clauses(list(-1, -3), list(-2, -3), list(1, 2, 3), list(3, -4), list(-1, -4), list(1, -3, 4), list(3, -5), list(-2, -5), list(2, -3, 5), list(-4, -6), list(-5, -6), list(4, 5, 6)), list(6, 4), 7},
		"a false that an And alone reaches":  {graph(list(1), pair(1, 2), pair(4, 3)), list(6), 2, clauses(list(-2), list(-2, -3), list(1, -3), list(-1, 2, 3), list(3, -4), list(-1, -4), list(1, -3, 4)), list(4), 5},
		"a false that is not reached":        {graph(list(1), pair(1, 2), pair(2, 2)), list(6), 2, clauses(list(1, -2), list(1, -2), list(-1, 2)), list(2), 3},
		"MaxVar":                             {and, list(6), 65536, clauses(list(1, -65536), list(-2, -65536), list(-1, 2, 65536)), list(65536), 65537},
		"MaxVar for false":                   {and, list(0), 65536, clauses(list(-65536)), list(65536), 65537},
		"the last two":                       {and, list(6, 0), 65535, clauses(list(-65535), list(1, -65536), list(-2, -65536), list(-1, 2, 65536)), list(65536, 65535), 65537},
	} {
		f, lits, next, e := enc.Graph(c.g, c.edges, c.first)
		if !sameLists(f, c.f) || !slices.Equal(lits, c.lits) || next != c.next || e != api.OK {
			t.Errorf("%s: %v, %v, %d, %v, not %v, %v, %d", name, f, lits, next, e, c.f, c.lits, c.next)
		}
		graphed(t, c.g, c.edges, c.first)
	}
}

func TestGraphErrArg(t *testing.T) {
	g := xorGraph()
	for _, x := range []int{12, 13, 14, 100, 65536, -1, -2, math.MinInt, math.MaxInt} { // edges that it does not have
		for _, edges := range [][]int{{x}, {2, x}, {x, 11}, {0, 2, x, 4}} {
			refusedGraph(t, "an edge", g, edges, 5, api.ErrArg)
			refusedGraph(t, "an edge, and first", g, edges, 0, api.ErrArg)
			refusedGraph(t, "an edge, and no room", g, edges, 65536, api.ErrArg)
		}
	}
	for _, first := range []int{0, -1, -5, math.MinInt, math.MinInt + 1} {
		refusedGraph(t, "below 1", g, list(11), first, api.ErrArg)
		refusedGraph(t, "below 1, no edges", g, nil, first, api.ErrArg)
		refusedGraph(t, "below 1, no inputs", graph(nil), nil, first, api.ErrArg)
		refusedGraph(t, "below 1, no inputs, false", graph(nil), list(0), first, api.ErrArg)
	}
	for _, first := range []int{1, 2, 3, 4} { // an input, between them, the greatest one
		refusedGraph(t, "not behind the inputs", g, list(11), first, api.ErrArg)
		refusedGraph(t, "not behind the inputs, no edges", g, nil, first, api.ErrArg)
		refusedGraph(t, "not behind the inputs, an input", g, list(2), first, api.ErrArg)
	}
	graphed(t, g, list(11), 5)
	for _, ins := range [][]int{{1}, {7}, {65535}, {1, 7}, {2, 3, 65536}} { // inputs that are not reached count too
		greatest := ins[len(ins)-1]
		for _, first := range []int{0, greatest - 1, greatest, greatest + 1, greatest + 2, 65536, 65537} {
			for _, edges := range [][]int{nil, {0}, {2}, {2 * len(ins)}} {
				graphed(t, graph(ins), edges, first)
			}
		}
		refusedGraph(t, "the greatest input", graph(ins), nil, greatest, api.ErrArg)
		if _, _, next, e := enc.Graph(graph(ins), nil, greatest+1); next != greatest+1 || e != api.OK {
			t.Errorf("behind the inputs %v: %d, %v", ins, next, e)
		}
	}
	for name, bad := range map[string]api.Aig{
		"0 as an input":          graph(list(0)),
		"-1 as an input":         graph(list(-1)),
		"65537 as an input":      graph(list(65537)),
		"the least int":          graph(list(math.MinInt)),
		"inputs that descend":    graph(list(2, 1)),
		"an input twice":         graph(list(1, 1)),
		"an And of itself":       graph(list(1), pair(2, 4)),
		"an And of a later one":  graph(list(1), pair(2, 6), pair(2, 3)),
		"a negative edge":        graph(list(1), pair(-1, 2)),
		"the greatest int":       graph(list(1), pair(2, math.MaxInt)),
		"200001 nodes":           graph(nil, make([][2]int, 200000)...),
		"200001 nodes, inputs":   graph(variables(1, 65536), make([][2]int, 134464)...),
		"a wrong And at the end": graph(list(1), pair(2, 3), pair(4, 2), pair(6, 8)),
	} {
		for _, edges := range [][]int{nil, {}, {0}, {2}} { // also without an edge
			for _, first := range []int{3, 65537, math.MaxInt} {
				refusedGraph(t, name, bad, edges, first, api.ErrArg)
			}
		}
	}
}

func TestGraphErrLong(t *testing.T) {
	g := xorGraph()
	for k, edges := range map[int][]int{1: {0}, 2: {6, 1}, 3: {10}, 4: {11, 0}} { // so many variables
		for first := 65530; first <= 65540; first++ {
			e := graphed(t, g, edges, first)
			if room := 65536 - first + 1; (e == api.OK) != (room >= k) || (e == api.ErrLong) != (room < k) {
				t.Errorf("%d variables from %d on: %v", k, first, e)
			}
		}
		for _, first := range []int{65537, 100000, math.MaxInt - 2, math.MaxInt - 1, math.MaxInt} {
			refusedGraph(t, "no room", g, edges, first, api.ErrLong)
		}
	}
	for _, first := range []int{65536, 65537, math.MaxInt} { // an input needs no room
		if _, lits, next, e := enc.Graph(g, list(5), first); !slices.Equal(lits, list(-4)) || next != first || e != api.OK {
			t.Errorf("an input, %d: %v, %d, %v", first, lits, next, e)
		}
	}
	full := graph(list(65536), pair(2, 2))
	for _, first := range []int{65537, 65538} {
		refusedGraph(t, "no room behind the inputs", full, list(4), first, api.ErrLong)
		refusedGraph(t, "no room behind the inputs, false", full, list(1), first, api.ErrLong)
	}
	refusedGraph(t, "the last input", full, list(4), 65536, api.ErrArg)
}

// TestSmallGraphs: all graphs of one input and two Ands, with all edges.
func TestSmallGraphs(t *testing.T) {
	for _, p := range tuples(2, variables(0, 3)) {
		for _, q := range tuples(2, variables(0, 5)) {
			g := graph(list(1), pair(p[0], p[1]), pair(q[0], q[1]))
			for x := range 8 {
				graphed(t, g, list(x), 2)
				graphed(t, g, list(x, 7-x), 3)
				graphed(t, g, list(6, x), 65534)
			}
		}
	}
}

func TestGraphsOfAllSorts(t *testing.T) {
	d := dice(3)
	seen := map[api.Errno]int{}
	for range 20000 {
		g, edges := d.graph(6, 12, 4)
		first := 1
		if n := len(g.Ins); n > 0 {
			first = g.Ins[n-1] + 1
		}
		switch d.below(8) {
		case 0:
			first += d.below(4) - 2
		case 1:
			first = 65537 - d.below(9)
		case 2:
			first = oddInts[d.below(len(oddInts))]
		}
		seen[graphed(t, g, edges, first)]++
		seen[graphed(t, d.brokenGraph(g), edges, first)]++
		graphed(t, g, d.brokenList(edges), first)
	}
	if seen[api.OK] < 1000 || seen[api.ErrArg] < 1000 || seen[api.ErrLong] < 100 {
		t.Errorf("%v", seen)
	}
}
