package aig_test

import (
	"math"
	"slices"
	"testing"

	"skolem/aig"
	"skolem/api"
)

// P6.2

// loops is a valid graph with pairs of all sorts, with the inputs 1, 2 and 3.
func loops() api.Aig {
	return graph(ins(1, 2, 3), pair(5, 2), pair(8, 6), pair(8, 8), pair(9, 10))
}

func TestCone(t *testing.T) {
	for name, c := range map[string]struct {
		g     api.Aig
		edges []int
		want  api.Aig
		l     []int
	}{
		"nothing":                     {api.Aig{}, nil, api.Aig{}, nil},
		"constants":                   {api.Aig{}, ins(1, 0, 0), api.Aig{}, ins(1, 0, 0)},
		"no edges":                    {example(), nil, graph(ins(1, 2)), nil},
		"inputs":                      {example(), ins(5, 2), graph(ins(1, 2)), ins(5, 2)},
		"inputs that are not reached": {graph(ins(3, 8, 9), pair(2, 6)), ins(8), graph(ins(3, 8, 9), pair(2, 6)), ins(8)},
		"the chapter's":               {example(), ins(15), graph(ins(1, 2), pair(2, 5), pair(3, 4), pair(7, 9)), ins(11)},
		"a part of it, twice":         {example(), ins(9, 12, 9, 8), graph(ins(1, 2), pair(3, 5), pair(3, 4)), ins(7, 8, 7, 6)},
		"in the graph's order":        {example(), ins(12, 6), graph(ins(1, 2), pair(2, 4), pair(3, 4)), ins(8, 6)},
		"all of it":                   {example(), ins(6, 9, 15), example(), ins(6, 9, 15)},
		"pairs of all sorts":          {loops(), ins(12, 14, 11), graph(ins(1, 2, 3), pair(2, 5), pair(6, 8), pair(9, 10)), ins(8, 12, 11)},
		"edges that descend":          {graph(ins(1, 2), pair(4, 2)), ins(6), graph(ins(1, 2), pair(2, 4)), ins(6)},
		"an edge twice":               {graph(ins(1, 2), pair(5, 5), pair(6, 2)), ins(8), graph(ins(1, 2), pair(2, 5)), ins(6)},
		"opposites":                   {graph(ins(1, 2), pair(5, 4), pair(6, 2), pair(7, 2)), ins(8, 9, 10, 11, 7), graph(ins(1, 2)), ins(0, 1, 2, 3, 1)},
		"constants in Ands":           {graph(ins(1), pair(0, 1), pair(1, 3), pair(2, 0), pair(1, 1), pair(0, 0)), ins(4, 6, 8, 10, 12), graph(ins(1)), ins(0, 3, 0, 1, 0)},
		"a pair twice":                {graph(ins(1, 2), pair(2, 4), pair(2, 4), pair(4, 2), pair(6, 11)), ins(6, 8, 10, 12), graph(ins(1, 2), pair(2, 4)), ins(6, 6, 6, 0)},
		"Ands that become useless":    {graph(ins(1, 2), pair(2, 4), pair(6, 7)), ins(9), graph(ins(1, 2), pair(2, 4)), ins(1)},
	} {
		got, l, e := aig.Cone(c.g, c.edges)
		if !sameGraphs(got, c.want) || !slices.Equal(l, c.l) || e != api.OK {
			t.Errorf("Cone of %s: %v, %v, %v", name, got, l, e)
		}
		got, l, e = aig.Restrict(c.g, c.edges, nil)
		if !sameGraphs(got, c.want) || !slices.Equal(l, c.l) || e != api.OK {
			t.Errorf("Restrict by nothing of %s: %v, %v, %v", name, got, l, e)
		}
		got, l, e = aig.Compose(c.g, c.edges, nil)
		if !sameGraphs(got, c.want) || !slices.Equal(l, c.l) || e != api.OK {
			t.Errorf("Compose by nothing of %s: %v, %v, %v", name, got, l, e)
		}
	}
}

func TestConeOfAllSorts(t *testing.T) {
	dice := dice(100)
	for range 10000 {
		g := dice.graph(5, 10)
		edges := dice.edges(g, 4)
		want, l := naiveCone(g, edges)
		if got, images, e := aig.Cone(g, edges); !sameGraphs(got, want) || !slices.Equal(images, l) || e != api.OK {
			t.Errorf("Cone(%v, %v) = %v, %v, %v", g, edges, got, images, e)
		}
	}
}

func TestRestrict(t *testing.T) {
	for name, c := range map[string]struct {
		g        api.Aig
		edges, a []int
		want     api.Aig
		l        []int
	}{
		"the chapter's example":   {example(), ins(15), ins(1), graph(ins(2)), ins(3)},
		"by the negative":         {example(), ins(15), ins(-1), graph(ins(2)), ins(2)},
		"by the other input":      {example(), ins(15, 14), ins(2), graph(ins(1)), ins(3, 2)},
		"by all":                  {example(), ins(15, 6, 9, 2), ins(1, 2), graph(nil), ins(0, 1, 1, 1)},
		"by all, one is negative": {example(), ins(15, 6, 9, 4), ins(1, -2), graph(nil), ins(1, 0, 1, 0)},
		"by no inputs":            {example(), ins(9), ins(-3, 65536), graph(ins(1, 2), pair(3, 5)), ins(7)},
		"by one of both sorts":    {example(), ins(9, 6), ins(-2, 7), graph(ins(1)), ins(2, 0)},
		"an input that is fixed":  {graph(ins(4, 5, 6)), ins(4, 5, 2, 6), ins(5), graph(ins(4, 6)), ins(1, 0, 2, 4)},
		"one that is fixed false": {graph(ins(4, 5, 6)), ins(4, 5, 2, 7), ins(-5), graph(ins(4, 6)), ins(0, 1, 2, 5)},
		"the first and the last":  {graph(ins(1, 2, 65536), pair(2, 4), pair(6, 8)), ins(8, 10, 11, 7), ins(-1, 65536), graph(ins(2)), ins(0, 0, 1, 0)},
		"one that is not reached": {graph(ins(1, 2, 3), pair(2, 6)), ins(8), ins(2), graph(ins(1, 3), pair(2, 4)), ins(6)},
		"no edges":                {example(), nil, ins(-2), graph(ins(1)), nil},
		"pairs of all sorts":      {loops(), ins(10, 11), ins(-2, 4), graph(ins(1, 3), pair(2, 4)), ins(6, 7)},
		"Ands that become equal":  {graph(ins(1, 2, 3), pair(2, 4), pair(2, 6), pair(9, 11)), ins(13, 10), ins(2, 3), graph(ins(1)), ins(2, 2)},
		"nothing":                 {api.Aig{}, ins(1), ins(1, 2, 3), api.Aig{}, ins(1)},
	} {
		if got, l, e := aig.Restrict(c.g, c.edges, c.a); !sameGraphs(got, c.want) || !slices.Equal(l, c.l) || e != api.OK {
			t.Errorf("Restrict of %s: %v, %v, %v", name, got, l, e)
		}
	}
}

func TestRestrictOfAllSorts(t *testing.T) {
	dice := dice(101)
	for range 10000 {
		g := dice.graph(5, 10)
		edges := dice.edges(g, 4)
		a := dice.assignment(slices.Concat(g.Ins, variables(30, 33)))
		if len(g.Ins) > 0 && g.Ins[0] > 33 {
			a = dice.assignment(slices.Concat(variables(30, 33), g.Ins))
		}
		want, l := naiveRestrict(g, edges, a)
		if got, images, e := aig.Restrict(g, edges, a); !sameGraphs(got, want) || !slices.Equal(images, l) || e != api.OK {
			t.Errorf("Restrict(%v, %v, %v) = %v, %v, %v", g, edges, a, got, images, e)
		}
	}
}

func TestCompose(t *testing.T) {
	and := graph(ins(1, 2), pair(2, 4))
	for name, c := range map[string]struct {
		g     api.Aig
		edges []int
		by    []api.Out
		want  api.Aig
		l     []int
	}{
		"the chapter's example":        {and, ins(6), []api.Out{{Var: 1, Edge: 5}}, graph(ins(1, 2)), ins(0)},
		"by each other":                {graph(ins(1, 2), pair(2, 5)), ins(6), []api.Out{{Var: 1, Edge: 4}, {Var: 2, Edge: 2}}, graph(ins(1, 2), pair(3, 4)), ins(6)},
		"in the other order":           {graph(ins(1, 2), pair(2, 5)), ins(7), []api.Out{{Var: 2, Edge: 2}, {Var: 1, Edge: 4}}, graph(ins(1, 2), pair(3, 4)), ins(7)},
		"in a ring":                    {graph(ins(1, 2, 3)), ins(2, 4, 6), []api.Out{{Var: 1, Edge: 4}, {Var: 2, Edge: 7}, {Var: 3, Edge: 2}}, graph(ins(1, 2, 3)), ins(4, 7, 2)},
		"by itself":                    {and, ins(6), []api.Out{{Var: 1, Edge: 2}}, and, ins(6)},
		"by its opposite":              {and, ins(6, 2), []api.Out{{Var: 1, Edge: 3}}, graph(ins(1, 2), pair(3, 4)), ins(6, 3)},
		"by true":                      {and, ins(6), []api.Out{{Var: 1, Edge: 1}}, graph(ins(1, 2)), ins(4)},
		"by false":                     {and, ins(7), []api.Out{{Var: 2, Edge: 0}}, graph(ins(1, 2)), ins(1)},
		"by the edge that is copied":   {and, ins(6), []api.Out{{Var: 1, Edge: 6}}, graph(ins(1, 2), pair(2, 4), pair(4, 6)), ins(8)},
		"by its opposite edge":         {and, ins(6, 2), []api.Out{{Var: 1, Edge: 7}}, graph(ins(1, 2), pair(2, 4), pair(4, 7)), ins(8, 7)},
		"both by the edge":             {and, ins(6), []api.Out{{Var: 1, Edge: 6}, {Var: 2, Edge: 6}}, and, ins(6)},
		"the edges of by are first":    {graph(ins(1, 2, 3), pair(2, 4), pair(4, 6)), ins(8), []api.Out{{Var: 1, Edge: 10}}, graph(ins(1, 2, 3), pair(4, 6), pair(4, 8)), ins(10)},
		"in the graph's order":         {graph(ins(1, 2, 3), pair(2, 4), pair(4, 6)), ins(3, 4), []api.Out{{Var: 2, Edge: 10}, {Var: 1, Edge: 8}}, graph(ins(1, 2, 3), pair(2, 4), pair(4, 6)), ins(9, 10)},
		"no edges":                     {and, nil, []api.Out{{Var: 2, Edge: 7}}, and, nil},
		"what nobody reaches":          {example(), ins(2), []api.Out{{Var: 2, Edge: 8}}, graph(ins(1, 2), pair(3, 5)), ins(2)},
		"an input that is not reached": {graph(ins(1, 2, 3), pair(2, 4)), ins(8), []api.Out{{Var: 3, Edge: 0}}, graph(ins(1, 2, 3), pair(2, 4)), ins(8)},
		"it becomes the first copy":    {graph(ins(1, 2, 3), pair(2, 4), pair(2, 6)), ins(10), []api.Out{{Var: 3, Edge: 4}, {Var: 1, Edge: 2}, {Var: 2, Edge: 8}}, graph(ins(1, 2, 3), pair(2, 4)), ins(8)},
		"pairs of all sorts":           {loops(), ins(10), []api.Out{{Var: 1, Edge: 6}, {Var: 3, Edge: 3}}, graph(ins(1, 2, 3), pair(5, 6), pair(3, 8)), ins(10)},
		"images of by are simpler":     {loops(), ins(5, 7), []api.Out{{Var: 2, Edge: 12}}, graph(ins(1, 2, 3), pair(2, 5)), ins(9, 7)},
	} {
		if got, l, e := aig.Compose(c.g, c.edges, c.by); !sameGraphs(got, c.want) || !slices.Equal(l, c.l) || e != api.OK {
			t.Errorf("Compose of %s: %v, %v, %v", name, got, l, e)
		}
	}
}

// replacing returns edges of some nodes for some of the variables, in any order.
func (d *dice) replacing(vars []int, nodes int) []api.Out {
	var by []api.Out
	for _, v := range mixed(d, d.part(vars)) {
		by = append(by, api.Out{Var: v, Edge: d.edge(nodes)})
	}
	return by
}

func TestComposeOfAllSorts(t *testing.T) {
	dice := dice(102)
	for range 10000 {
		g := dice.graph(5, 8)
		edges := dice.edges(g, 4)
		by := dice.replacing(g.Ins, nodesOf(g))
		want, l := naiveCompose(g, edges, by)
		if got, images, e := aig.Compose(g, edges, by); !sameGraphs(got, want) || !slices.Equal(images, l) || e != api.OK {
			t.Errorf("Compose(%v, %v, %v) = %v, %v, %v", g, edges, by, got, images, e)
		}
	}
}

func TestJoin(t *testing.T) {
	and, or := graph(ins(1, 2), pair(2, 4)), graph(ins(2, 3), pair(3, 5))
	for name, c := range map[string]struct {
		a    api.Aig
		x    []int
		b    api.Aig
		y    []int
		want api.Aig
		u, v []int
	}{
		"nothing":               {api.Aig{}, nil, api.Aig{}, nil, api.Aig{}, nil, nil},
		"constants":             {api.Aig{}, ins(1, 0), api.Aig{}, ins(0), api.Aig{}, ins(1, 0), ins(0)},
		"a shared input":        {and, ins(6), or, ins(7), graph(ins(1, 2, 3), pair(2, 4), pair(5, 7)), ins(8), ins(11)},
		"in the other order":    {or, ins(7), and, ins(6), graph(ins(1, 2, 3), pair(5, 7), pair(2, 4)), ins(9), ins(10)},
		"no shared inputs":      {graph(ins(4, 9)), ins(3, 4), graph(ins(1, 5)), ins(2, 5), graph(ins(1, 4, 5, 9)), ins(5, 8), ins(2, 7)},
		"with itself":           {example(), ins(15, 6), example(), ins(6, 15), graph(ins(1, 2), pair(2, 4), pair(2, 5), pair(3, 4), pair(9, 11)), ins(13, 6), ins(6, 13)},
		"inputs before":         {graph(ins(2), pair(3, 3)), ins(4), graph(ins(1)), nil, graph(ins(1, 2)), ins(5), nil},
		"inputs behind":         {graph(ins(2), pair(3, 3)), ins(4), graph(ins(65536)), ins(2), graph(ins(2, 65536)), ins(3), ins(4)},
		"a part":                {and, ins(4), or, ins(6), graph(ins(1, 2, 3), pair(5, 7)), ins(4), ins(8)},
		"no edges of the first": {and, nil, or, ins(6, 2), graph(ins(1, 2, 3), pair(5, 7)), nil, ins(8, 4)},
		"no edges at all":       {and, nil, or, nil, graph(ins(1, 2, 3)), nil, nil},
		"nothing and something": {api.Aig{}, ins(1), and, ins(7), and, ins(1), ins(7)},
		"something and nothing": {and, ins(7), api.Aig{}, ins(0), and, ins(7), ins(0)},
		"an And that is there":  {and, ins(6), graph(ins(1, 2), pair(4, 2), pair(6, 2)), ins(8), graph(ins(1, 2), pair(2, 4), pair(2, 6)), ins(6), ins(8)},
		"pairs of all sorts":    {graph(ins(4), pair(2, 2)), ins(3), graph(ins(2, 4), pair(2, 4)), ins(6), graph(ins(2, 4), pair(2, 4)), ins(5), ins(6)},
	} {
		got, u, v, e := aig.Join(c.a, c.x, c.b, c.y)
		if !sameGraphs(got, c.want) || !slices.Equal(u, c.u) || !slices.Equal(v, c.v) || e != api.OK {
			t.Errorf("Join of %s: %v, %v, %v, %v", name, got, u, v, e)
		}
	}
}

func TestJoinOfAllSorts(t *testing.T) {
	dice := dice(103)
	for range 1000 {
		a, b := dice.graph(5, 8), dice.graph(6, 8)
		x, y := dice.edges(a, 3), dice.edges(b, 3)
		want, l, k := naiveJoin(a, x, b, y)
		if got, u, v, e := aig.Join(a, x, b, y); !sameGraphs(got, want) || !slices.Equal(u, l) || !slices.Equal(v, k) || e != api.OK {
			t.Errorf("Join(%v, %v, %v, %v) = %v, %v, %v, %v", a, x, b, y, got, u, v, e)
		}
	}
}

// refusal returns a function that holds a result against an error.
func refusal(t *testing.T, name string, want api.Errno) func(g api.Aig, l []int, e api.Errno) {
	return func(g api.Aig, l []int, e api.Errno) {
		t.Helper()
		if g.Ins != nil || g.Ands != nil || l != nil || e != want {
			t.Errorf("%s: %v, %v", name, l, e)
		}
	}
}

// joinRefused holds Join against an error.
func joinRefused(t *testing.T, name string, a api.Aig, x []int, b api.Aig, y []int, want api.Errno) {
	t.Helper()
	g, u, v, e := aig.Join(a, x, b, y)
	if g.Ins != nil || g.Ands != nil || u != nil || v != nil || e != want {
		t.Errorf("Join of %s: %v, %v, %v", name, u, v, e)
	}
}

func TestGraphsOfWrong(t *testing.T) {
	g := example()
	for name, not := range notGraphs() {
		for _, l := range [][]int{nil, {0}, {1, 2}} {
			refusal(t, "Cone of "+name, api.ErrArg)(aig.Cone(not, l))
			refusal(t, "Restrict of "+name, api.ErrArg)(aig.Restrict(not, l, ins(1)))
			refusal(t, "Compose of "+name, api.ErrArg)(aig.Compose(not, l, nil))
			refusal(t, "Compose by 0 of "+name, api.ErrArg)(aig.Compose(not, l, []api.Out{{Var: 1}}))
			joinRefused(t, name+" with another one", not, l, g, nil, api.ErrArg)
			joinRefused(t, "a graph with "+name, g, ins(2), not, l, api.ErrArg)
		}
	}
	for _, x := range []int{16, 17, -1, -2, math.MinInt, math.MaxInt} {
		for _, l := range [][]int{{x}, {0, x}, {x, 0}, {0, 1, x, x, 2}} {
			refusal(t, "Cone", api.ErrArg)(aig.Cone(g, l))
			refusal(t, "Restrict", api.ErrArg)(aig.Restrict(g, l, nil))
			refusal(t, "Compose", api.ErrArg)(aig.Compose(g, l, nil))
			refusal(t, "Compose by 7", api.ErrArg)(aig.Compose(g, l, []api.Out{{Var: 7}}))
			joinRefused(t, "edges that the first does not have", g, l, g, nil, api.ErrArg)
			joinRefused(t, "edges that the second does not have", g, nil, g, l, api.ErrArg)
		}
		refusal(t, "Compose by an edge", api.ErrArg)(aig.Compose(g, nil, []api.Out{{Var: 1, Edge: x}}))
		refusal(t, "Compose by an edge behind another", api.ErrArg)(aig.Compose(g, nil, []api.Out{{Var: 1}, {Var: 2, Edge: x}}))
		refusal(t, "Compose by an edge before no input", api.ErrArg)(aig.Compose(g, nil, []api.Out{{Var: 7}, {Var: 2, Edge: x}}))
		refusal(t, "Compose by an edge for no input", api.ErrArg)(aig.Compose(g, nil, []api.Out{{Var: 7, Edge: x}}))
	}
	joinRefused(t, "edges of the other one", graph(ins(1, 2)), nil, api.Aig{}, ins(2), api.ErrArg)
	joinRefused(t, "edges of the other one", api.Aig{}, ins(2), graph(ins(1, 2)), nil, api.ErrArg)
	for _, a := range loose {
		refusal(t, "Restrict by a loose list", api.ErrArg)(aig.Restrict(g, ins(2), a))
		refusal(t, "Restrict of nothing by a loose list", api.ErrArg)(aig.Restrict(api.Aig{}, nil, a))
	}
}

func TestComposeOfWrong(t *testing.T) {
	g := example()
	for _, c := range []struct {
		edges []int
		by    []api.Out
		want  api.Errno
	}{
		{nil, []api.Out{{Var: 1}, {Var: 1}}, api.ErrArg},
		{nil, []api.Out{{Var: 2, Edge: 4}, {Var: 1}, {Var: 2, Edge: 4}}, api.ErrArg},
		{nil, []api.Out{{Var: 3}, {Var: 3}}, api.ErrArg},
		{nil, []api.Out{{Var: 0}, {Var: 1}, {Var: 0}}, api.ErrArg},
		{nil, []api.Out{{Var: 7}, {Var: 2}, {Var: 2}}, api.ErrArg},
		{ins(16), []api.Out{{Var: 7}}, api.ErrArg},
		{ins(2), []api.Out{{Var: 3}}, api.ErrNone},
		{nil, []api.Out{{Var: 1}, {Var: 2}, {Var: 3}}, api.ErrNone},
		{nil, []api.Out{{Var: 3}, {Var: 1}}, api.ErrNone},
		{nil, []api.Out{{Var: 0}}, api.ErrNone},
		{nil, []api.Out{{Var: -1}}, api.ErrNone},
		{nil, []api.Out{{Var: 1}, {Var: -1}}, api.ErrNone},
		{nil, []api.Out{{Var: 65537}}, api.ErrNone},
		{nil, []api.Out{{Var: math.MinInt}}, api.ErrNone},
		{nil, []api.Out{{Var: math.MaxInt}}, api.ErrNone},
	} {
		refusal(t, "Compose", c.want)(aig.Compose(g, c.edges, c.by))
	}
	refusal(t, "Compose of nothing", api.ErrNone)(aig.Compose(api.Aig{}, nil, []api.Out{{Var: 1}}))
	refusal(t, "Compose of too much, by no input", api.ErrNone)(aig.Compose(chain(100002), ins(200003), []api.Out{{Var: 2, Edge: 200002}, {Var: 3}}))
	refusal(t, "Compose of too much, by one twice", api.ErrArg)(aig.Compose(chain(100002), ins(200003), []api.Out{{Var: 2, Edge: 200002}, {Var: 2}}))
}

// renamed returns a graph with other inputs.
func renamed(g api.Aig, ins ...int) api.Aig { return api.Aig{Ins: ins, Ands: g.Ands} }

// TestGraphsAtLimits: results of exactly 200000 nodes, and of one more.
func TestGraphsAtLimits(t *testing.T) {
	full := chain(200000)
	got, l, e := aig.Cone(full, ins(399999))
	if !sameGraphs(got, full) || !slices.Equal(l, ins(399999)) || e != api.OK {
		t.Errorf("Cone: %d nodes, %v, %v", nodesOf(got), l, e)
	}
	got, l, e = aig.Restrict(full, ins(399998), ins(7))
	if !sameGraphs(got, full) || !slices.Equal(l, ins(399998)) || e != api.OK {
		t.Errorf("Restrict: %d nodes, %v, %v", nodesOf(got), l, e)
	}
	got, l, e = aig.Compose(full, ins(399998), []api.Out{{Var: 2, Edge: 4}})
	if !sameGraphs(got, full) || !slices.Equal(l, ins(399998)) || e != api.OK {
		t.Errorf("Compose by itself: %d nodes, %v, %v", nodesOf(got), l, e)
	}
	half := chain(100002) // 99999 Ands
	got, l, e = aig.Compose(half, ins(200003), []api.Out{{Var: 2, Edge: 200000}})
	if nodesOf(got) != 200000 || !slices.Equal(l, ins(399999)) || !aig.Reduced(got) || e != api.OK {
		t.Errorf("Compose: %d nodes, %v, %v", nodesOf(got), l, e)
	}
	refusal(t, "Compose", api.ErrLong)(aig.Compose(half, ins(200003), []api.Out{{Var: 2, Edge: 200002}}))
	refusal(t, "Compose of the edge before", api.ErrLong)(aig.Compose(chain(100003), ins(200002), []api.Out{{Var: 2, Edge: 200004}}))
	refusal(t, "Compose of all", api.ErrLong)(aig.Compose(full, ins(2, 399998), []api.Out{{Var: 2, Edge: 399998}}))
	other := renamed(half, 3, 4)
	got, u, v, e := aig.Join(renamed(half, 1, 3), ins(200003), other, ins(199998)) // of the other one 99997 Ands
	if nodesOf(got) != 200000 || !aig.Reduced(got) || !slices.Equal(u, ins(200005)) || !slices.Equal(v, ins(399998)) || e != api.OK {
		t.Errorf("Join: %d nodes, %v, %v, %v", nodesOf(got), u, v, e)
	}
	got, u, v, e = aig.Join(full, ins(399999), full, ins(399998))
	if !sameGraphs(got, full) || !slices.Equal(u, ins(399999)) || !slices.Equal(v, ins(399998)) || e != api.OK {
		t.Errorf("Join with itself: %d nodes, %v, %v, %v", nodesOf(got), u, v, e)
	}
	joinRefused(t, "one And more", renamed(half, 1, 3), ins(200003), other, ins(200000), api.ErrLong)
	joinRefused(t, "one input more", renamed(half, 1, 2), ins(200003), other, ins(199998), api.ErrLong)
	joinRefused(t, "a full one with another", full, ins(399999), graph(ins(3)), ins(2), api.ErrLong)
	joinRefused(t, "another one with a full one", graph(ins(3)), ins(2), full, ins(399999), api.ErrLong)
	joinRefused(t, "a full one with a wrong one", full, ins(399999), graph(ins(3)), ins(4), api.ErrArg)
}
