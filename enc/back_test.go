package enc_test

import (
	"math"
	"slices"
	"testing"

	"skolem/aig"
	"skolem/api"
	"skolem/circ"
	"skolem/enc"
)

// P12.3

// turnedBack holds Back against the definition.
func turnedBack(t *testing.T, q api.Qbf) {
	t.Helper()
	n, e := enc.Back(q)
	if want, err := naiveBack(q); !circ.Same(n, want) || e != err {
		t.Errorf("Back(%v) = %v, %v, not %v, %v", q, n, e, want, err)
	}
}

func TestBack(t *testing.T) {
	for name, c := range map[string]struct {
		q     api.Qbf
		gates []api.Gate
	}{
		"the chapter's example":           {api.Qbf{Prefix: blocks(all(2), some(1)), Clauses: clauses(list(1, 2), nil)}, []api.Gate{or(3, 1, 2), or(4), and(5, 3, 4)}},
		"nothing":                         {api.Qbf{}, []api.Gate{and(1)}},
		"no clauses":                      {api.Qbf{Prefix: blocks(some(1, 3))}, []api.Gate{and(2)}},
		"the empty clause":                {api.Qbf{Clauses: clauses(nil)}, []api.Gate{or(1), and(2, 1)}},
		"empty clauses":                   {api.Qbf{Prefix: blocks(all(2)), Clauses: [][]int{{}, nil, {}}}, []api.Gate{or(1), or(3), or(4), and(5, 1, 3, 4)}},
		"one clause":                      {api.Qbf{Prefix: blocks(some(1)), Clauses: clauses(list(-1))}, []api.Gate{or(2, -1), and(3, 2)}},
		"a clause twice":                  {api.Qbf{Prefix: blocks(some(1)), Clauses: clauses(list(1), list(1))}, []api.Gate{or(2, 1), or(3, 1), and(4, 2, 3)}},
		"all signs":                       {api.Qbf{Prefix: blocks(some(3, 1), all(2)), Clauses: clauses(list(-1, 2, -3), list(3), list(1, -2))}, []api.Gate{or(4, -1, 2, -3), or(5, 3), or(6, 1, -2), and(7, 4, 5, 6)}},
		"variables that leave gaps":       {api.Qbf{Prefix: blocks(all(4, 2), some(7), all(65536)), Clauses: clauses(list(2), list(-4, 65536), list(7), list(-7), list(2, 7))}, []api.Gate{or(1, 2), or(3, -4, 65536), or(5, 7), or(6, -7), or(8, 2, 7), and(9, 1, 3, 5, 6, 8)}},
		"a gap that the and fills":        {api.Qbf{Prefix: blocks(some(5, 1, 3)), Clauses: clauses(list(1, 3), list(-5))}, []api.Gate{or(2, 1, 3), or(4, -5), and(6, 2, 4)}},
		"a gap that the and fills itself": {api.Qbf{Prefix: blocks(some(5, 1)), Clauses: clauses(list(1), list(5))}, []api.Gate{or(2, 1), or(3, 5), and(4, 2, 3)}},
		"the greatest variables alone":    {api.Qbf{Prefix: blocks(some(65535), all(65536)), Clauses: clauses(list(65535, -65536))}, []api.Gate{or(1, 65535, -65536), and(2, 1)}},
	} {
		want := net(c.q.Prefix, c.gates[len(c.gates)-1].Var, c.gates...)
		if n, e := enc.Back(c.q); !circ.Same(n, want) || e != api.OK {
			t.Errorf("%s: %v, %v, not %v", name, n, e, want)
		}
		turnedBack(t, c.q)
	}
}

func TestBackErrArg(t *testing.T) {
	p := blocks(some(1), all(2), some(65536))
	bad := []api.Qbf{
		{Prefix: blocks(some())}, {Prefix: blocks(all(1), some())}, {Prefix: blocks(some(1), some(2))}, {Prefix: blocks(some(1), all(1))}, {Prefix: blocks(some(0))}, {Prefix: blocks(all(-1))}, {Prefix: blocks(some(65537))}, {Prefix: blocks(some(math.MinInt))}, {Prefix: blocks(some(variables(1, 1025)...))},
		{Clauses: clauses(list(1))}, {Prefix: p, Clauses: clauses(list(1), list(3))}, {Prefix: p, Clauses: clauses(list(-65535))},
	}
	for _, f := range looseCnfs() {
		bad = append(bad, api.Qbf{Prefix: p, Clauses: f})
	}
	for i, q := range bad {
		if n, e := enc.Back(q); !circ.Same(n, api.Net{}) || e != api.ErrArg {
			t.Errorf("formula %d: %v, %v", i, n, e)
		}
	}
}

func TestBackOfAllSorts(t *testing.T) {
	d := dice(4)
	for range 20000 {
		q := d.qbf(8, 6)
		turnedBack(t, q)
		if d.below(2) == 0 {
			q.Prefix = d.brokenPrefix(q.Prefix)
		} else {
			q.Clauses = d.brokenCnf(q.Clauses)
		}
		turnedBack(t, q)
	}
}

// matrixed holds Matrix against the definition.
func matrixed(t *testing.T, f [][]int, ins []int) api.Errno {
	t.Helper()
	g, edge, e := enc.Matrix(f, ins)
	if want, at, err := naiveMatrix(f, ins); !aig.Same(g, want) || edge != at || e != err {
		t.Errorf("Matrix(%v, %v) = %v, %d, %v, not %v, %d, %v", f, ins, g, edge, e, want, at, err)
	}
	return e
}

// refusedMatrix holds Matrix against an error.
func refusedMatrix(t *testing.T, name string, f [][]int, ins []int, err api.Errno) {
	t.Helper()
	if g, edge, e := enc.Matrix(f, ins); !aig.Same(g, api.Aig{}) || edge != 0 || e != err {
		t.Errorf("%s: Matrix of %d clauses and %d ins: %d nodes, %d, %v, not %v", name, len(f), len(ins), nodesOf(g), edge, e, err)
	}
}

func TestMatrix(t *testing.T) {
	for name, c := range map[string]struct {
		f    [][]int
		ins  []int
		ands [][2]int
		edge int
	}{
		"the chapter's example":         {clauses(list(1, 2), list(-1)), list(1, 2), [][2]int{{3, 5}, {3, 7}}, 8},
		"nothing":                       {nil, nil, nil, 1},
		"no clauses":                    {nil, list(3, 5), nil, 1},
		"the empty clause":              {clauses(nil), nil, nil, 0},
		"the empty clause, an in":       {clauses(list()), list(7), nil, 0},
		"a positive literal":            {clauses(list(4)), list(4), nil, 2},
		"a negative literal":            {clauses(list(-4)), list(4), nil, 3},
		"an in that is unused":          {clauses(list(-4)), list(3, 4, 5), nil, 5},
		"the greatest variable":         {clauses(list(65536)), list(1, 65536), nil, 4},
		"two literals":                  {clauses(list(1, 2)), list(1, 2), [][2]int{{3, 5}}, 7},
		"two negative ones":             {clauses(list(-1, -2)), list(1, 2), [][2]int{{2, 4}}, 7},
		"three literals, in order":      {clauses(list(1, -2, 3)), list(1, 2, 3), [][2]int{{3, 4}, {7, 8}}, 11},
		"two units":                     {clauses(list(1), list(-2)), list(1, 2), [][2]int{{2, 5}}, 6},
		"three units, in order":         {clauses(list(3), list(1), list(-2)), list(1, 2, 3), [][2]int{{2, 6}, {5, 8}}, 10},
		"a unit and its negative":       {clauses(list(1), list(-1)), list(1), nil, 0},
		"a unit twice":                  {clauses(list(1), list(1)), list(1), nil, 2},
		"a clause twice":                {clauses(list(1, 2), list(1, 2)), list(1, 2), [][2]int{{3, 5}}, 7},
		"clauses that begin alike":      {clauses(list(1, 2), list(1, 2, 3)), list(1, 2, 3), [][2]int{{3, 5}, {7, 8}, {9, 11}}, 12},
		"a clause and the empty one":    {clauses(list(1, 2), nil), list(1, 2), nil, 0},
		"the empty one in front":        {clauses(nil, list(1, 2), list(-1)), list(1, 2), nil, 0},
		"contradictory clauses":         {clauses(list(1), list(2), list(-1, -2)), list(1, 2), nil, 0},
		"an and that comes again as or": {clauses(list(-1), list(-2), list(1, 2)), list(1, 2), nil, 0},
		"clauses before the units":      {clauses(list(-2, 3), list(1)), list(1, 2, 3), [][2]int{{4, 7}, {2, 9}}, 10},
	} {
		g, edge, e := enc.Matrix(c.f, c.ins)
		if !slices.Equal(g.Ins, c.ins) || !slices.Equal(g.Ands, c.ands) || edge != c.edge || e != api.OK {
			t.Errorf("%s: %v, %d, %v, not %v, %d", name, g, edge, e, c.ands, c.edge)
		}
		matrixed(t, c.f, c.ins)
	}
}

func TestMatrixErrors(t *testing.T) {
	f := clauses(list(1, 2), list(-1))
	badIns := [][]int{{0}, {0, 1, 2}, {-1}, {-2, -1}, {2, 1}, {1, 1, 2}, {1, 2, 2}, {1, 3, 2}, {65537}, {1, 2, 65537}, {math.MinInt}, {math.MinInt, 1, 2}, {1, 2, math.MaxInt}, {1, -2}, {1, 2, -3}, variables(0, 2), variables(1, 65537), slices.Repeat(list(1), 200001), make([]int, 300000)}
	for _, ins := range badIns {
		refusedMatrix(t, "ins", f, ins, api.ErrArg)
		refusedMatrix(t, "ins, no clauses", nil, ins, api.ErrArg)
		refusedMatrix(t, "ins that lack a variable too", clauses(list(9)), ins, api.ErrArg)
	}
	for _, bad := range looseCnfs() {
		for _, ins := range [][]int{nil, {1, 2}, variables(1, 65536), {2, 1}} {
			refusedMatrix(t, "no CNF", bad, ins, api.ErrArg)
		}
	}
	for _, ins := range [][]int{nil, {1}, {2}, {3}, {1, 3}, {2, 65536}} { // a clause has another variable
		refusedMatrix(t, "a variable is missing", f, ins, api.ErrNone)
		refusedMatrix(t, "a variable is missing, the empty clause", append(clauses(nil), f...), ins, api.ErrNone)
	}
	refusedMatrix(t, "a variable is missing, the empty clause first", clauses(nil, list(1), list(-1), list(2)), list(1), api.ErrNone)
	refusedMatrix(t, "the greatest variable is missing", clauses(list(1), list(-65536)), variables(1, 65535), api.ErrNone)
	refusedMatrix(t, "a variable is missing, no CNF behind", clauses(list(9), list(2, 1)), list(1, 2), api.ErrArg)
}

// TestSmallMatrices: all CNFs of up to three clauses of two variables, and of up to two of three.
func TestSmallMatrices(t *testing.T) {
	for vars, n := range map[int]int{2: 3, 3: 2} {
		of := normalLists(variables(1, vars)...)
		for k := range n + 1 {
			for _, at := range tuples(k, variables(0, len(of)-1)) {
				var f [][]int
				for _, i := range at {
					f = append(f, of[i])
				}
				matrixed(t, f, variables(1, vars))
			}
		}
	}
}

func TestMatricesOfAllSorts(t *testing.T) {
	d := dice(5)
	seen := map[api.Errno]int{}
	for range 20000 {
		ins := slices.Sorted(slices.Values(d.names(d.below(8))))
		f := d.cnf(7, ins)
		matrixed(t, f, ins)
		if d.below(3) == 0 {
			ins = d.part(ins)
		} else if d.below(2) == 0 {
			ins = d.brokenList(ins)
		} else {
			f = d.brokenCnf(f)
		}
		seen[matrixed(t, f, ins)]++
	}
	if seen[api.OK] < 1000 || seen[api.ErrArg] < 1000 || seen[api.ErrNone] < 1000 {
		t.Errorf("%v", seen)
	}
}
