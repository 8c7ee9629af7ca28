package aig_test

import (
	"math"
	"slices"
	"testing"

	"skolem/aig"
	"skolem/api"
	"skolem/circ"
)

// P6.3

func all(v ...int) api.Block { return api.Block{Vars: v} }

func some(v ...int) api.Block { return api.Block{Exists: true, Vars: v} }

func prefix(b ...api.Block) []api.Block { return b }

func and(v int, in ...int) api.Gate { return api.Gate{Var: v, Kind: api.GateAnd, In: in} }

func or(v int, in ...int) api.Gate { return api.Gate{Var: v, Kind: api.GateOr, In: in} }

func xor(v int, in ...int) api.Gate { return api.Gate{Var: v, Kind: api.GateXor, In: in} }

func ite(v int, in ...int) api.Gate { return api.Gate{Var: v, Kind: api.GateIte, In: in} }

func net(p []api.Block, out int, gates ...api.Gate) api.Net {
	return api.Net{Prefix: p, Gates: gates, Out: out}
}

func TestFromNet(t *testing.T) {
	p := prefix(all(1, 2), some(3))
	three := func(ands ...[2]int) api.Aig { return graph(ins(1, 2, 3), ands...) }
	for name, c := range map[string]struct {
		n    api.Net
		want api.Aig
		edge int
	}{
		"the chapter's example":      {net(prefix(all(2, 1)), 3, or(3, 1, -2)), graph(ins(1, 2), pair(3, 4)), 7},
		"no prefix":                  {net(nil, 5, and(5)), api.Aig{}, 1},
		"an or of nothing":           {net(p, 5, or(5)), three(), 0},
		"an and of nothing":          {net(p, 5, and(5)), three(), 1},
		"the negative of one":        {net(p, -5, and(5)), three(), 0},
		"the negative of an or":      {net(p, -5, or(5)), three(), 1},
		"a variable":                 {net(p, 2), three(), 4},
		"its negative":               {net(p, -2), three(), 5},
		"one that is not used":       {net(p, 3, and(4, 1, 2)), three(), 6},
		"an and of one":              {net(p, 4, and(4, 2)), three(), 4},
		"an or of one":               {net(p, 4, or(4, -2)), three(), 5},
		"an and":                     {net(p, 4, and(4, 1, 2)), three(pair(2, 4)), 8},
		"in the other order":         {net(p, 4, and(4, 2, 1)), three(pair(2, 4)), 8},
		"an and of negatives":        {net(p, -4, and(4, -1, -2)), three(pair(3, 5)), 9},
		"an and of three":            {net(p, 4, and(4, 3, 1, 2)), three(pair(2, 6), pair(4, 8)), 10},
		"an and of one twice":        {net(p, 4, and(4, 3, 1, 3)), three(pair(2, 6), pair(6, 8)), 10},
		"an and of opposites":        {net(p, 4, and(4, 1, 2, -1)), three(pair(2, 4), pair(3, 8)), 10},
		"an and of opposites first":  {net(p, 4, and(4, 1, -1, 2)), three(), 0},
		"an or":                      {net(p, 4, or(4, 1, 2)), three(pair(3, 5)), 9},
		"an or of three":             {net(p, 4, or(4, -3, 1, -2)), three(pair(3, 6), pair(4, 8)), 11},
		"an or of one twice":         {net(p, 4, or(4, 1, 1)), three(), 2},
		"an or of opposites":         {net(p, 4, or(4, 1, -1)), three(), 1},
		"an xor":                     {net(p, 4, xor(4, 1, 2)), three(pair(2, 5), pair(3, 4), pair(9, 11)), 13},
		"an xor in the other order":  {net(p, 4, xor(4, 2, 1)), three(pair(3, 4), pair(2, 5), pair(9, 11)), 13},
		"an xor of negatives":        {net(p, 4, xor(4, -1, 2)), three(pair(3, 5), pair(2, 4), pair(9, 11)), 13},
		"an xor of one twice":        {net(p, 4, xor(4, 2, 2)), three(), 0},
		"an xor of opposites":        {net(p, 4, xor(4, 2, -2)), three(), 1},
		"an ite":                     {net(p, 4, ite(4, 1, 2, 3)), three(pair(2, 4), pair(3, 6), pair(9, 11)), 13},
		"an ite in another order":    {net(p, 4, ite(4, -1, 3, 2)), three(pair(3, 6), pair(2, 4), pair(9, 11)), 13},
		"an ite of negatives":        {net(p, -4, ite(4, 3, -2, -1)), three(pair(5, 6), pair(3, 7), pair(9, 11)), 12},
		"an ite of equal ones":       {net(p, 4, ite(4, 1, 2, 2)), three(pair(2, 4), pair(3, 4), pair(9, 11)), 13},
		"an ite of opposites":        {net(p, 4, ite(4, 1, 2, -2)), three(pair(2, 4), pair(3, 5), pair(9, 11)), 13},
		"an ite of itself":           {net(p, 4, ite(4, 1, 1, 3)), three(pair(3, 6), pair(3, 9)), 11},
		"gates of gates":             {net(p, -6, and(4, 1, 2), or(5, 4, 3), and(6, 5, -4)), three(pair(2, 4), pair(7, 9), pair(9, 11)), 13},
		"the negative of a gate":     {net(p, 5, or(4, -1, -2), and(5, -4, 3)), three(pair(2, 4), pair(6, 8)), 10},
		"equal gates are one":        {net(p, 6, and(4, 1, 2), and(5, 2, 1), or(6, 4, -5)), three(), 1},
		"gates that are not reached": {net(p, 5, and(4, 1, 2), and(5, 2, 3), and(6, 4, 5)), three(pair(4, 6)), 8},
		"Vars in any order":          {net(prefix(some(9), all(2), some(5)), 1, and(7, 9, 5), or(1, 7, 2)), graph(ins(2, 5, 9), pair(4, 6), pair(3, 9)), 11},
		"the greatest variables":     {net(prefix(some(65536), all(65534)), -65535, and(65535, 65536, 65534)), graph(ins(65534, 65536), pair(2, 4)), 7},
	} {
		if got, edge, e := aig.FromNet(c.n); !sameGraphs(got, c.want) || edge != c.edge || e != api.OK {
			t.Errorf("FromNet of %s: %v, %v, %v", name, got, edge, e)
		}
	}
}

func TestFromNetOfAllSorts(t *testing.T) {
	dice := dice(110)
	for range 10000 {
		n := dice.net(6, 8)
		want, edge := naiveFromNet(n)
		if got, x, e := aig.FromNet(n); !sameGraphs(got, want) || x != edge || e != api.OK {
			t.Errorf("FromNet(%v) = %v, %v, %v", n, got, x, e)
		}
	}
}

func TestFromNetOfWrong(t *testing.T) {
	p := prefix(all(1, 2), some(3))
	for name, n := range map[string]api.Net{
		"nothing":                 {},
		"no Out":                  net(p, 0),
		"Out that is nowhere":     net(p, 4),
		"an empty block":          net(prefix(all(1), some()), 1),
		"a variable twice":        net(prefix(all(1), some(2, 1)), 1),
		"neighbours":              net(prefix(all(1), all(2)), 1),
		"1025 variables":          net(prefix(all(variables(1, 1025)...)), 1),
		"no kind":                 net(p, 1, api.Gate{Var: 4, In: ins(1, 2)}),
		"a fifth kind":            net(p, 1, api.Gate{Var: 4, Kind: 5}),
		"an xor of one":           net(p, 1, xor(4, 1)),
		"an ite of two":           net(p, 1, ite(4, 1, 2)),
		"a gate of itself":        net(p, 1, and(4, 4)),
		"a literal 0":             net(p, 1, or(4, 1, 0)),
		"the least int":           net(p, 1, or(4, math.MinInt)),
		"Out the least int":       net(p, math.MinInt),
		"a Var of the prefix":     net(p, 1, or(3, 1)),
		"200001 literals":         net(p, 1, or(4, slices.Repeat(ins(1), 200001)...)),
		"too much, and not valid": tower(3402, -65537),
	} {
		if got, edge, e := aig.FromNet(n); got.Ins != nil || got.Ands != nil || edge != 0 || e != api.ErrArg {
			t.Errorf("FromNet of %s: %v, %v", name, edge, e)
		}
	}
}

// tower returns a net whose graph gets 196600 nodes and, of an and of so many literals, one for each but the first.
func tower(literals, out int) api.Net {
	n := net(prefix(all(1, 2), some(3)), out, xor(4, 2, 1))
	for v := 5; v < 65536; v++ {
		n.Gates = append(n.Gates, xor(v, v-1, 1))
	}
	n.Gates = append(n.Gates, and(65536, variables(4, literals+3)...))
	return n
}

func TestFromNetAtLimits(t *testing.T) {
	if got, edge, e := aig.FromNet(tower(3401, 3)); !sameGraphs(got, graph(ins(1, 2, 3))) || edge != 6 || e != api.OK {
		t.Errorf("FromNet with 200000 nodes, of an input: %v, %v, %v", got, edge, e)
	}
	if got, edge, e := aig.FromNet(tower(3401, -65536)); edge != 2*(nodesOf(got)-1)+1 || nodesOf(got) < 13000 || !aig.Reduced(got) || e != api.OK {
		t.Errorf("FromNet with 200000 nodes: %v, %v", edge, e)
	}
	for _, out := range []int{3, 65535, -65536} {
		if got, edge, e := aig.FromNet(tower(3402, out)); got.Ins != nil || got.Ands != nil || edge != 0 || e != api.ErrLong {
			t.Errorf("FromNet with 200001 nodes, %d: %v, %v", out, edge, e)
		}
	}
	n := net(prefix(all(variables(1, 1024)...)), 2000, or(2000, slices.Repeat(ins(-7, 7), 100000)...))
	if got, edge, e := aig.FromNet(n); !sameGraphs(got, graph(variables(1, 1024))) || edge != 1 || e != api.OK {
		t.Errorf("FromNet of 200000 literals: %v, %v", edge, e)
	}
}

func TestToNet(t *testing.T) {
	g := example()
	p := prefix(all(1, 2))
	for name, c := range map[string]struct {
		g    api.Aig
		edge int
		p    []api.Block
		want api.Net
		e    api.Errno
	}{
		"the chapter's example":        {graph(ins(1, 2), pair(3, 4)), 7, p, net(p, -3, and(3, -1, 2)), api.OK},
		"false":                        {g, 0, p, net(p, -3, and(3)), api.OK},
		"true":                         {g, 1, p, net(p, 3, and(3)), api.OK},
		"true of nothing":              {api.Aig{}, 1, nil, net(nil, 1, and(1)), api.OK},
		"false, no prefix":             {g, 0, nil, net(nil, -1, and(1)), api.OK},
		"true, others in the prefix":   {g, 1, prefix(some(4), all(3, 1)), net(prefix(some(4), all(3, 1)), 2, and(2)), api.OK},
		"true, a full prefix":          {g, 1, prefix(some(variables(1, 1024)...)), net(prefix(some(variables(1, 1024)...)), 1025, and(1025)), api.OK},
		"an input":                     {g, 4, p, net(p, 2), api.OK},
		"its opposite":                 {g, 5, p, net(p, -2), api.OK},
		"an input and no other":        {g, 4, prefix(some(2)), net(prefix(some(2)), 2), api.OK},
		"the greatest input":           {graph(ins(4, 65536)), 5, prefix(some(65536)), net(prefix(some(65536)), -65536), api.OK},
		"an And":                       {g, 8, p, net(p, 3, and(3, -1, -2)), api.OK},
		"its opposite edge":            {g, 9, p, net(p, -3, and(3, -1, -2)), api.OK},
		"an exclusive or":              {g, 15, p, net(p, -5, and(3, 1, -2), and(4, -1, 2), and(5, -3, -4)), api.OK},
		"in another prefix":            {g, 14, prefix(some(2), all(1)), net(prefix(some(2), all(1)), 5, and(3, 1, -2), and(4, -1, 2), and(5, -3, -4)), api.OK},
		"variables that are not there": {g, 8, prefix(some(9, 2), all(3), some(1, 5)), net(prefix(some(9, 2), all(3), some(1, 5)), 4, and(4, -1, -2)), api.OK},
		"Vars between others":          {g, 14, prefix(some(4, 2), all(1)), net(prefix(some(4, 2), all(1)), 6, and(3, 1, -2), and(5, -1, 2), and(6, -3, -5)), api.OK},
		"an input that is not reached": {graph(ins(1, 2, 3), pair(4, 7)), 8, prefix(all(3, 2)), net(prefix(all(3, 2)), 1, and(1, 2, -3)), api.OK},
		"inputs and prefix differ":     {graph(ins(5, 7), pair(2, 5)), 6, prefix(all(7, 1, 5)), net(prefix(all(7, 1, 5)), 2, and(2, 5, -7)), api.OK},
		"pairs of all sorts":           {loops(), 15, prefix(all(1, 2), some(3)), net(prefix(all(1, 2), some(3)), -6, and(4, 1, -2), and(5, 3, 4), and(6, -4, 5)), api.OK},
		"an And that is an input":      {graph(ins(1, 2), pair(5, 5)), 7, p, net(p, 2), api.OK},
		"an And that is false":         {graph(ins(1, 2), pair(2, 3)), 6, p, net(p, -3, and(3)), api.OK},
		"false of what is not there":   {graph(ins(1, 2), pair(2, 3)), 7, nil, net(nil, 1, and(1)), api.OK},
		"an input is not needed":       {graph(ins(1, 2), pair(4, 0), pair(7, 2)), 8, prefix(all(1)), net(prefix(all(1)), 1), api.OK},
		"a useless And":                {graph(ins(1, 2), pair(2, 4), pair(6, 7), pair(9, 2)), 10, p, net(p, 1, and(3, 1, 2)), api.OK},
		"a useless And lacks one":      {graph(ins(1, 2), pair(2, 4), pair(6, 7), pair(9, 2)), 10, prefix(all(1)), api.Net{}, api.ErrNone},
		"an input that is lacking":     {g, 4, prefix(all(1)), api.Net{}, api.ErrNone},
		"its opposite, no prefix":      {g, 3, nil, api.Net{}, api.ErrNone},
		"an And of it":                 {g, 8, prefix(all(1, 3)), api.Net{}, api.ErrNone},
		"an And of And of it":          {graph(ins(1, 2, 3), pair(2, 4), pair(6, 8)), 10, prefix(all(1, 3)), api.Net{}, api.ErrNone},
		"the first is lacking":         {g, 15, prefix(all(2)), api.Net{}, api.ErrNone},
	} {
		if got, e := aig.ToNet(c.g, c.edge, c.p); !sameNets(got, c.want) || e != c.e {
			t.Errorf("ToNet of %s: %v, %v", name, got, e)
		}
	}
}

func TestToNetOfAllSorts(t *testing.T) {
	dice := dice(111)
	count := map[api.Errno]int{}
	for i := range 20000 {
		g := dice.graph(5, 8)
		edge := dice.edge(nodesOf(g))
		vars := append(slices.Clone(g.Ins), 6, 8, 65531)[:len(g.Ins)+i%4]
		if i%3 == 0 {
			vars = dice.part(vars)
		}
		p := dice.prefix(vars)
		want, ok := naiveToNet(g, edge, p)
		wantE := api.OK
		if !ok {
			want, wantE = api.Net{}, api.ErrNone
		}
		got, e := aig.ToNet(g, edge, p)
		if !sameNets(got, want) || e != wantE || ok && !circ.May(got) {
			t.Errorf("ToNet(%v, %d, %v) = %v, %v", g, edge, p, got, e)
		}
		count[e]++
	}
	if count[api.OK] < 10000 || count[api.ErrNone] < 1000 {
		t.Error(count)
	}
}

func TestToNetOfWrong(t *testing.T) {
	g := example()
	refused := func(name string, g api.Aig, edge int, p []api.Block, want api.Errno) {
		if got, e := aig.ToNet(g, edge, p); got.Prefix != nil || got.Gates != nil || got.Out != 0 || e != want {
			t.Errorf("ToNet of %s: %v, %v", name, got, e)
		}
	}
	for name, not := range notGraphs() {
		refused(name, not, 0, nil, api.ErrArg)
		refused(name, not, 2, prefix(all(1, 2)), api.ErrArg)
	}
	for _, x := range []int{16, 17, -1, -2, math.MinInt, math.MaxInt} {
		refused("an edge that is not there", g, x, prefix(all(1, 2)), api.ErrArg)
		refused("an edge that is not there, no prefix", g, x, nil, api.ErrArg)
	}
	for name, p := range map[string][]api.Block{
		"an empty block":           {{}},
		"an empty block behind":    prefix(all(1, 2), some()),
		"an empty block before":    prefix(some(), all(1, 2)),
		"a variable twice":         prefix(all(1, 2, 1)),
		"a variable in two blocks": prefix(all(1, 2), some(1)),
		"neighbours":               prefix(all(1), all(2)),
		"neighbours that exist":    prefix(all(3), some(1), some(2)),
		"0":                        prefix(all(1, 2, 0)),
		"0 first":                  prefix(all(0, 1, 2)),
		"-3":                       prefix(all(1, 2), some(-3)),
		"65537":                    prefix(all(1, 2, 65537)),
		"the least int":            prefix(all(math.MinInt)),
		"1025 variables":           prefix(all(variables(1, 1025)...)),
		"1025 in blocks":           prefix(all(variables(1, 1024)...), some(2000)),
	} {
		for _, edge := range []int{0, 1, 2, 15} {
			refused("a prefix of "+name, g, edge, p, api.ErrArg)
		}
	}
	refused("a lacking input, and a wrong prefix", g, 5, prefix(all(1), all(3)), api.ErrArg)
}

func TestToNetAtLimits(t *testing.T) {
	two, more := prefix(all(1, 2)), prefix(all(1, 2), some(65536))
	for name, c := range map[string]struct {
		nodes int
		p     []api.Block
		e     api.Errno
	}{
		"65534 Ands":             {65537, two, api.OK},
		"65535 Ands":             {65538, two, api.ErrLong},
		"200000 nodes":           {200000, two, api.ErrLong},
		"65533 Ands, 3 in all":   {65536, more, api.OK},
		"65534 Ands, 3 in all":   {65537, more, api.ErrLong},
		"65535 Ands, one lacks":  {65538, prefix(all(1)), api.ErrNone},
		"65535 Ands, wrong":      {65538, prefix(all(1, 2, 2)), api.ErrArg},
		"65534 Ands, 1 lacks":    {65537, prefix(all(2)), api.ErrNone},
		"1024 in all, 64512":     {64515, prefix(all(variables(1, 1024)...)), api.OK},
		"1024 in all, 64513":     {64516, prefix(all(variables(1, 1024)...)), api.ErrLong},
		"1024 in all, and wrong": {64516, prefix(all(variables(1, 1025)...)), api.ErrArg},
	} {
		got, e := aig.ToNet(chain(c.nodes), 2*c.nodes-1, c.p)
		if e != c.e || e != api.OK && (got.Prefix != nil || got.Gates != nil || got.Out != 0) {
			t.Errorf("ToNet of %s: %d gates, %v", name, len(got.Gates), e)
		}
		if e == api.OK && (!circ.May(got) || len(got.Gates) != c.nodes-3 || got.Out != -got.Gates[c.nodes-4].Var) {
			t.Errorf("ToNet of %s: %d gates", name, len(got.Gates))
		}
	}
	if got, e := aig.ToNet(chain(200000), 131073, two); len(got.Gates) != 65534 || got.Out != -65536 || e != api.OK {
		t.Errorf("ToNet of a part: %d gates, %v", len(got.Gates), e)
	}
}
