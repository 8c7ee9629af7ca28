package proof_test

import (
	"slices"
	"testing"

	"skolem/api"
	"skolem/proof"
)

// P10.2: Under, Restrict and Lift.

// under holds Under against the definition.
func under(t *testing.T, f [][]int, a []int) ([][]int, []int) {
	t.Helper()
	clauses, from, e := proof.Under(f, a)
	want, at, err := naiveUnder(f, a)
	if !sameLists(clauses, want) || !slices.Equal(from, at) || e != err {
		t.Errorf("Under(%v, %v) = %v, %v, %v, not %v, %v, %v", f, a, clauses, from, e, want, at, err)
	}
	return clauses, from
}

func TestUnder(t *testing.T) {
	f := [][]int{{1, 2}, {-1, 2, 3}, {}, {-2}, {-3}, {65536}, {-3}, {4, 5}}
	for name, c := range map[string]struct {
		a       []int
		clauses [][]int
		from    []int
	}{
		"nothing":                        {nil, f, variables(0, 7)},
		"an empty list":                  {[]int{}, f, variables(0, 7)},
		"satisfied, shorter, and as is":  {[]int{1}, [][]int{{2, 3}, {}, {-2}, {-3}, {65536}, {-3}, {4, 5}}, variables(1, 7)},
		"one in the middle is satisfied": {[]int{-2}, [][]int{{1}, {-1, 3}, {}, {-3}, {65536}, {-3}, {4, 5}}, []int{0, 1, 2, 4, 5, 6, 7}},
		"clauses become empty":           {[]int{3}, [][]int{{1, 2}, {}, {-2}, {}, {65536}, {}, {4, 5}}, []int{0, 2, 3, 4, 5, 6, 7}},
		"equal clauses are satisfied":    {[]int{-3}, [][]int{{1, 2}, {-1, 2}, {}, {-2}, {65536}, {4, 5}}, []int{0, 1, 2, 3, 5, 7}},
		"two literals go":                {[]int{-1, -2}, [][]int{{}, {}, {-3}, {65536}, {-3}, {4, 5}}, []int{0, 2, 4, 5, 6, 7}},
		"all of a clause go":             {[]int{-4, -5}, [][]int{{1, 2}, {-1, 2, 3}, {}, {-2}, {-3}, {65536}, {-3}, {}}, variables(0, 7)},
		"the greatest variable":          {[]int{65536}, [][]int{{1, 2}, {-1, 2, 3}, {}, {-2}, {-3}, {-3}, {4, 5}}, []int{0, 1, 2, 3, 4, 6, 7}},
		"its negation":                   {[]int{-65536}, [][]int{{1, 2}, {-1, 2, 3}, {}, {-2}, {-3}, {}, {-3}, {4, 5}}, variables(0, 7)},
		"variables of no clause":         {[]int{6, -7, 65535}, f, variables(0, 7)},
		"one of a clause among them":     {[]int{-4, 6, -7, 65535}, [][]int{{1, 2}, {-1, 2, 3}, {}, {-2}, {-3}, {65536}, {-3}, {5}}, variables(0, 7)},
		"all":                            {[]int{1, -2, 3, 4, 5, -65536}, [][]int{{}, {}, {}, {}}, []int{2, 4, 5, 6}},
	} {
		clauses, from := under(t, f, c.a)
		if !sameLists(clauses, c.clauses) || !slices.Equal(from, c.from) {
			t.Errorf("%s: %v, %v", name, clauses, from)
		}
	}
	if clauses, from, e := proof.Under(nil, []int{5}); len(clauses) > 0 || len(from) > 0 || e != api.OK {
		t.Errorf("of no clauses: %v, %v, %v", clauses, from, e)
	}
	if clauses, from, e := proof.Under([][]int{{5}, {5}}, []int{5}); len(clauses) > 0 || len(from) > 0 || e != api.OK {
		t.Errorf("all satisfied: %v, %v, %v", clauses, from, e)
	}
}

// TestNoneUnder: Under, Restrict and Lift return ErrArg for the same CNFs and assignments, also where other errors apply.
func TestNoneUnder(t *testing.T) {
	good := [][]int{{1, 2}, {-1}}
	p := proofOf(input(0, 1, 2))
	bad := func(f [][]int, a []int) {
		t.Helper()
		if clauses, from, e := proof.Under(f, a); len(clauses) > 0 || len(from) > 0 || e != api.ErrArg {
			t.Errorf("Under(%d clauses, %v): %v, %v, %v", len(f), a, clauses, from, e)
		}
		for _, p := range []api.Proof{p, {}, {Cubes: true}, proofOf(input(9)), proofOf(input(0, 9))} {
			if q, e := proof.Restrict(f, p, a); !isNothing(q) || e != api.ErrArg {
				t.Errorf("Restrict(%d clauses, %v, %v): %v, %v", len(f), p, a, q, e)
			}
			if q, e := proof.Lift(f, a, p); !isNothing(q) || e != api.ErrArg {
				t.Errorf("Lift(%d clauses, %v, %v): %v, %v", len(f), a, p, q, e)
			}
		}
	}
	for _, l := range loose {
		bad(good, l)
	}
	bad(good, variables(1, 65537))
	bad(good, make([]int, 200001))
	for _, f := range looseCnfs() {
		bad(f, nil)
		bad(f, []int{1})
		bad(f, []int{2, 1})
	}
}

// restricted holds Restrict against the definition.
func restricted(t *testing.T, f [][]int, p api.Proof, a []int) (api.Proof, api.Errno) {
	t.Helper()
	q, e := proof.Restrict(f, p, a)
	if want, err := naiveRestrict(f, p, a); !same(q, want) || e != err {
		t.Errorf("Restrict(%v, %v, %v) = %v, %v, not %v, %v", f, p, a, q, e, want, err)
	}
	return q, e
}

// lifted holds Lift against the definition.
func lifted(t *testing.T, f [][]int, a []int, p api.Proof) (api.Proof, api.Errno) {
	t.Helper()
	q, e := proof.Lift(f, a, p)
	if want, err := naiveLift(f, a, p); !same(q, want) || e != err {
		t.Errorf("Lift(%v, %v, %v) = %v, %v, not %v, %v", f, a, p, q, e, want, err)
	}
	return q, e
}

func TestRestrict(t *testing.T) {
	f := [][]int{{1, 2}, {-1, 2, 3}, {-2}, {-3}, {-1, -2, 4}, {1, 5}}
	p := []api.Line{input(0, 1, 2), input(1, -1, 2, 3), resolve(0, 1, 1, 2, 3), input(2, -2), resolve(2, 3, 2, 3), input(3, -3), resolve(4, 5, 3)}
	for name, c := range map[string]struct {
		p, want []api.Line
		a       []int
	}{
		"nothing":                        {p, p, nil},
		"variables of no line":           {p, p, []int{7, -8, 65536}},
		"a line that is satisfied":       {p, []api.Line{input(0, 2, 3), input(1, -2), resolve(0, 1, 2, 3), input(2, -3), resolve(2, 3, 3)}, []int{1}},
		"piv in a, negative":             {p, []api.Line{input(0, 2), input(1, -2), resolve(0, 1, 2)}, []int{-1}},
		"the result of A has lost piv":   {p, []api.Line{input(0)}, []int{-1, -2}},
		"the last clause alone":          {p, []api.Line{input(2)}, []int{3}},
		"the clause in the middle alone": {p, []api.Line{input(0)}, []int{1, 2, 7}},
		"another clause is satisfied":    {p[:3], []api.Line{input(0, 2, 3)}, []int{1, -5}},
		"numbers of the clauses":         {[]api.Line{input(3, -3)}, []api.Line{input(1, -3)}, []int{-1, 2, 4, 5}},
		"numbers of the clauses behind":  {[]api.Line{input(5, 1, 5)}, []api.Line{input(2, 5)}, []int{-1, -3, -4}},
		"an input of an empty clause":    {[]api.Line{input(2, -2)}, []api.Line{input(0)}, []int{1, 2, -3, 4}},
		"a line that is needed twice": {
			[]api.Line{input(1, -1, 2, 3), input(2, -2), resolve(0, 1, 2, -1, 3), input(5, 1, 5), resolve(3, 0, 1, 2, 3, 5), resolve(4, 1, 2, 3, 5), input(3, -3), resolve(5, 6, 3, 5)},
			[]api.Line{input(0, 2, 3), input(1, -2), resolve(0, 1, 2, 3), input(2, -3), resolve(2, 3, 3)}, []int{1, -5}},
	} {
		if q, e := restricted(t, f, proofOf(c.p...), c.a); !same(q, proofOf(c.want...)) || e != api.OK {
			t.Errorf("%s: %v, %v", name, q, e)
		}
	}
}

// TestLostPivot: the result of A does not contain piv any more.
func TestLostPivot(t *testing.T) {
	f := [][]int{{1, 2}, {-1, 3}, {-2, 4}, {-3, 4}}
	p := []api.Line{input(0, 1, 2), input(1, -1, 3), resolve(0, 1, 1, 2, 3), input(2, -2, 4), resolve(2, 3, 2, 3, 4), input(3, -3, 4), resolve(4, 5, 3, 4)}
	for _, c := range []struct {
		a    []int
		want []api.Line
	}{
		{[]int{1}, []api.Line{input(0, 3), input(2, -3, 4), resolve(0, 1, 3, 4)}},
		{[]int{-1}, []api.Line{input(0, 2), input(1, -2, 4), resolve(0, 1, 2, 4)}},
		{[]int{2}, []api.Line{input(1, 4)}},
		{[]int{-2}, []api.Line{input(0, 1), input(1, -1, 3), resolve(0, 1, 1, 3), input(2, -3, 4), resolve(2, 3, 3, 4)}},
		{[]int{3}, []api.Line{input(2, 4)}},
		{[]int{-3}, []api.Line{input(0, 1, 2), input(1, -1), resolve(0, 1, 1, 2), input(2, -2, 4), resolve(2, 3, 2, 4)}},
		{[]int{-4}, []api.Line{input(0, 1, 2), input(1, -1, 3), resolve(0, 1, 1, 2, 3), input(2, -2), resolve(2, 3, 2, 3), input(3, -3), resolve(4, 5, 3)}},
		{[]int{-1, 3}, []api.Line{input(2, 4)}},
		{[]int{1, -3}, []api.Line{input(0)}},
		{[]int{-1, -2}, []api.Line{input(0)}},
	} {
		if q, e := restricted(t, f, proofOf(p...), c.a); !same(q, proofOf(c.want...)) || e != api.OK {
			t.Errorf("under %v: %v, %v", c.a, q, e)
		}
	}
}

// TestLostOnBothSides: the result of A, or of B, or of both, does not contain the variable any more.
func TestLostOnBothSides(t *testing.T) {
	f := [][]int{{3, 4}, {1, -3}, {2, 5}, {-1, -2}}
	p := []api.Line{input(0, 3, 4), input(1, 1, -3), resolve(0, 1, 3, 1, 4), input(2, 2, 5), input(3, -1, -2), resolve(3, 4, 2, -1, 5), resolve(2, 5, 1, 4, 5)}
	for _, c := range []struct {
		a    []int
		want []api.Line
	}{
		{[]int{-3}, []api.Line{input(0, 4)}},
		{[]int{-2}, []api.Line{input(2, 5)}},
		{[]int{-2, -3}, []api.Line{input(0, 4)}},
		{[]int{2}, []api.Line{input(0, 3, 4), input(1, 1, -3), resolve(0, 1, 3, 1, 4), input(2, -1), resolve(2, 3, 1, 4)}},
		{[]int{3}, []api.Line{input(0, 1), input(1, 2, 5), input(2, -1, -2), resolve(1, 2, 2, -1, 5), resolve(0, 3, 1, 5)}},
		{[]int{1}, []api.Line{input(1, 2, 5), input(2, -2), resolve(0, 1, 2, 5)}},
		{[]int{-1}, []api.Line{input(0, 3, 4), input(1, -3), resolve(0, 1, 3, 4)}},
		{[]int{-1, 2, 3}, []api.Line{input(0)}},
		{[]int{-4, -5}, []api.Line{input(0, 3), input(1, 1, -3), resolve(0, 1, 3, 1), input(2, 2), input(3, -1, -2), resolve(3, 4, 2, -1), resolve(2, 5, 1)}},
	} {
		if q, e := restricted(t, f, proofOf(p...), c.a); !same(q, proofOf(c.want...)) || e != api.OK {
			t.Errorf("under %v: %v, %v", c.a, q, e)
		}
	}
}

// TestSharedResults: several lines have one result, and each line of an input has one of its own.
func TestSharedResults(t *testing.T) {
	f := [][]int{{1, 2}, {-2, 3}, {-2, 4}, {-3, -4}}
	p := []api.Line{input(0, 1, 2), input(1, -2, 3), resolve(0, 1, 2, 1, 3), input(2, -2, 4), resolve(0, 3, 2, 1, 4), input(3, -3, -4), resolve(2, 5, 3, 1, -4), resolve(4, 6, 4, 1)}
	for _, c := range []struct {
		a    []int
		want []api.Line
	}{
		{[]int{-1}, []api.Line{input(0, 2), input(1, -2, 3), resolve(0, 1, 2, 3), input(2, -2, 4), resolve(0, 3, 2, 4), input(3, -3, -4), resolve(2, 5, 3, -4), resolve(4, 6, 4)}},
		{[]int{-1, 3}, []api.Line{input(0, 2), input(1, -2, 4), resolve(0, 1, 2, 4), input(2, -4), resolve(2, 3, 4)}},
		{[]int{-1, -2}, []api.Line{input(0)}},
		{[]int{-2}, []api.Line{input(0, 1)}},
		{[]int{2}, []api.Line{input(0, 3), input(1, 4), input(2, -3, -4), resolve(0, 2, 3, -4), resolve(1, 3, 4)}},
		{[]int{2, -4}, []api.Line{input(1)}},
	} {
		if q, e := restricted(t, f, proofOf(p...), c.a); !same(q, proofOf(c.want...)) || e != api.OK {
			t.Errorf("under %v: %v, %v", c.a, q, e)
		}
	}
	twice := []api.Line{input(0, 1, 2), input(0, 1, 2), input(1, -2, 3), resolve(0, 2, 2, 1, 3), input(3, -3, -4), resolve(3, 4, 3, 1, -4), input(2, -2, 4), resolve(1, 6, 2, 1, 4), resolve(7, 5, 4, 1)}
	want := []api.Line{input(0, 2), input(0, 2), input(1, -2, 3), resolve(0, 2, 2, 3), input(3, -3, -4), resolve(3, 4, 3, -4), input(2, -2, 4), resolve(1, 6, 2, 4), resolve(7, 5, 4)}
	if q, e := restricted(t, f, proofOf(twice...), []int{-1}); !same(q, proofOf(want...)) || e != api.OK {
		t.Errorf("%v, %v", q, e)
	}
}

// TestRestrictErrors: ErrArg comes before ErrProof, and that before ErrState.
func TestRestrictErrors(t *testing.T) {
	f, lines := example()
	for name, c := range map[string]struct {
		f [][]int
		p api.Proof
		a []int
		e api.Errno
	}{
		"the last line is satisfied": {f, proofOf(lines...), []int{5}, api.ErrState},
		"by one of its literals":     {f, proofOf(lines[:3]...), []int{-2, 3}, api.ErrState},
		"by another one":             {f, proofOf(lines[:3]...), []int{1, 2}, api.ErrState},
		"an input is satisfied":      {f, proofOf(lines[5]), []int{-3}, api.ErrState},
		"the greatest variable":      {f, proofOf(input(5, 65536)), []int{65536}, api.ErrState},
		"no lines":                   {f, api.Proof{}, []int{5}, api.ErrProof},
		"cubes":                      {f, api.Proof{Cubes: true, Lines: lines}, []int{5}, api.ErrProof},
		"a wrong line, and the last one is satisfied":  {f, proofOf(append(lines[:2:2], resolve(0, 1, 1, 2))...), []int{2}, api.ErrProof},
		"a wrong line that is not needed":              {f, proofOf(append([]api.Line{input(0)}, lines[0])...), nil, api.ErrProof},
		"a wrong line that is satisfied":               {f, proofOf(append([]api.Line{input(0, 1)}, lines[3])...), []int{1}, api.ErrProof},
		"no CNF, a wrong line, satisfied":              {[][]int{{2, 1}}, proofOf(input(1, 5)), []int{5}, api.ErrArg},
		"no assignment, a wrong line, satisfied":       {f, proofOf(input(1, 5)), []int{5, 5}, api.ErrArg},
		"a proof from the clauses under an assignment": {[][]int{{1, 2}}, proofOf(input(0, 2)), []int{-1}, api.ErrProof},
	} {
		if q, e := restricted(t, c.f, c.p, c.a); !isNothing(q) || e != c.e {
			t.Errorf("%s: %v, %v", name, q, e)
		}
	}
}

func TestLift(t *testing.T) {
	f := [][]int{{1, 2}, {-1, 2, 3}, {-2, 4}, {-3}, {-1, -2, -5}, {1, 5}, {-1, 3}, {-4, -5, -6}}
	for name, c := range map[string]struct {
		a       []int
		p, want []api.Line
	}{
		"nothing":                      {nil, []api.Line{input(0, 1, 2), input(2, -2, 4), resolve(0, 1, 2, 1, 4)}, []api.Line{input(0, 1, 2), input(2, -2, 4), resolve(0, 1, 2, 1, 4)}},
		"one input":                    {[]int{-1}, []api.Line{input(0, 2)}, []api.Line{input(0, 1, 2)}},
		"the number of another clause": {[]int{-1}, []api.Line{input(3, 5)}, []api.Line{input(5, 1, 5)}},
		"an empty clause":              {[]int{1, -3}, []api.Line{input(3)}, []api.Line{input(6, -1, 3)}},
		"lines gain a literal":         {[]int{-1}, []api.Line{input(0, 2), input(1, -2, 4), resolve(0, 1, 2, 4)}, []api.Line{input(0, 1, 2), input(2, -2, 4), resolve(0, 1, 2, 1, 4)}},
		"of both lines":                {[]int{-1, -4}, []api.Line{input(0, 2), input(1, -2), resolve(0, 1, 2)}, []api.Line{input(0, 1, 2), input(2, -2, 4), resolve(0, 1, 2, 1, 4)}},
		"the same of both":             {[]int{1}, []api.Line{input(0, 2, 3), input(2, -3), resolve(0, 1, 3, 2), input(3, -2, -5), resolve(2, 3, 2, -5)}, []api.Line{input(1, -1, 2, 3), input(3, -3), resolve(0, 1, 3, -1, 2), input(4, -1, -2, -5), resolve(2, 3, 2, -1, -5)}},
		"lines that are not needed":    {[]int{1}, []api.Line{input(0, 2, 3), input(0, 2, 3), input(4, 3), input(2, -3), resolve(2, 3, 3), resolve(1, 3, 3, 2)}, []api.Line{input(1, -1, 2, 3), input(1, -1, 2, 3), input(6, -1, 3), input(3, -3), resolve(2, 3, 3, -1), resolve(1, 3, 3, -1, 2)}},
		"variables of no clause":       {[]int{7, -8}, []api.Line{input(5, 1, 5)}, []api.Line{input(5, 1, 5)}},
		"the empty clause as the last": {[]int{-1, -5}, []api.Line{input(0, 2), input(3)}, []api.Line{input(0, 1, 2), input(5, 1, 5)}},
		"an assignment of three":       {[]int{4, -5, 6}, []api.Line{input(3, 1)}, []api.Line{input(5, 1, 5)}},
		"two literals of one clause":   {[]int{5, 6}, []api.Line{input(6, -4), input(2, -2, 4), resolve(1, 0, 4, -2)}, []api.Line{input(7, -4, -5, -6), input(2, -2, 4), resolve(1, 0, 4, -2, -5, -6)}},
	} {
		if q, e := lifted(t, f, c.a, proofOf(c.p...)); !same(q, proofOf(c.want...)) || e != api.OK {
			t.Errorf("%s: %v, %v", name, q, e)
		}
	}
}

// TestLiftErrors: ErrProof for what is no proof from the clauses under the assignment, as it may be one from those without.
func TestLiftErrors(t *testing.T) {
	f, lines := example()
	for name, c := range map[string]struct {
		a []int
		p api.Proof
	}{
		"no lines":                       {nil, api.Proof{}},
		"cubes":                          {nil, api.Proof{Cubes: true, Lines: lines}},
		"a clause as it was":             {[]int{-1}, proofOf(input(0, 1, 2))},
		"the number that it had":         {[]int{1}, proofOf(input(1, 3))},
		"a clause that is satisfied":     {[]int{1}, proofOf(input(0, 1, 2))},
		"a number of no clause any more": {[]int{1}, proofOf(input(5, 65536))},
		"no clauses":                     {[]int{1}, proofOf(input(6))},
		"a wrong line":                   {[]int{1}, proofOf(input(0, 3), resolve(0, 0, 3))},
		"a wrong line in front":          {[]int{1}, proofOf(input(0), input(0, 3))},
		"resolved on one of its own":     {[]int{-1}, proofOf(input(0, 2), input(1, -2), resolve(0, 1, 1, 2))},
	} {
		if q, e := lifted(t, f, c.a, c.p); !isNothing(q) || e != api.ErrProof {
			t.Errorf("%s: %v, %v", name, q, e)
		}
	}
	if q, e := lifted(t, f, nil, proofOf(lines...)); !same(q, proofOf(lines...)) || e != api.OK {
		t.Errorf("under nothing: %v, %v", q, e)
	}
}

// TestSmallRestrictions holds Restrict and Lift against the definition for all proofs of some lines, under all assignments.
func TestSmallRestrictions(t *testing.T) {
	f := [][]int{{1, 2}, {-1, 2}, {-2, 3}, {-1, -3}}
	lines := inputs(f)
	for a := range 4 {
		for b := range 4 {
			for piv := 1; piv <= 3; piv++ {
				if r, ok := naiveResolvent(f[a], f[b], piv); ok {
					lines = append(lines, resolve(a, b, piv, r...))
				}
			}
		}
	}
	n := len(lines)
	under := normalLists(1, 2, 3)
	seen := map[api.Errno]int{}
	for a := range n {
		for b := range n {
			for piv := 1; piv <= 3; piv++ {
				r, ok := naiveResolvent(lines[a].Lits, lines[b].Lits, piv)
				if !ok {
					continue
				}
				p := proofOf(append(lines[:n:n], resolve(a, b, piv, r...))...)
				for _, a := range under {
					q, e := restricted(t, f, p, a)
					seen[e]++
					if e == api.OK {
						lifted(t, f, a, q)
					}
					lifted(t, f, a, p)
				}
			}
		}
	}
	if seen[api.OK] < 200 || seen[api.ErrState] < 200 {
		t.Errorf("%v", seen)
	}
}

// TestAnyRestrictions holds Restrict and Lift against the definition for longer proofs.
func TestAnyRestrictions(t *testing.T) {
	d := dice(105)
	seen := map[api.Errno]int{}
	shorter := 0
	for range 200 {
		vars := d.vars(7)
		f, p := d.refutation(vars)
		if d.below(2) == 0 {
			f = d.cnf(9, 3, vars)
			p = d.grown(f, 3+d.below(30))
		}
		p = d.padded(p)
		for range 25 {
			a := d.clauseOf(d.below(6), vars)
			under(t, f, a)
			q, e := restricted(t, f, p, a)
			seen[e]++
			if e != api.OK {
				continue
			}
			if len(q.Lines) < len(p.Lines)/2 {
				shorter++
			}
			lifted(t, f, a, q)
			changed := d.change(q)
			lifted(t, f, a, changed)
			if len(changed.Lines) > 0 {
				restricted(t, f, d.change(p), a)
			}
		}
	}
	if seen[api.OK] < 1000 || seen[api.ErrState] < 100 || shorter < 500 {
		t.Errorf("%v, %d are shorter", seen, shorter)
	}
}

// TestRestrictAtTheLimit: MaxLines lines, and assignments of all variables.
func TestRestrictAtTheLimit(t *testing.T) {
	f, p := chain(20000)
	for name, c := range map[string]struct {
		a     []int
		lines int
	}{"nothing": {nil, 39999}, "the first one": {[]int{1}, 39997}, "the one in the middle": {[]int{10000}, 19999}, "the last but one": {[]int{19999}, 1}, "one that makes a clause empty": {[]int{-10000}, 19999}, "variables of no clause": {variables(20001, 65536), 39999}} {
		q, e := proof.Restrict(f, p, c.a)
		clauses, _, err := proof.Under(f, c.a)
		if len(q.Lines) != c.lines || cap(q.Lines) > 2*c.lines || e != api.OK || err != api.OK {
			t.Errorf("%s: %d lines, %v, %v", name, len(q.Lines), e, err)
		}
		if l, line, e := proof.Check(clauses, q); len(l) > 1 || line != 0 || e != api.OK {
			t.Errorf("%s: %v, %d, %v", name, l, line, e)
		}
		if back, e := proof.Lift(f, c.a, q); len(back.Lines) != c.lines || e != api.OK {
			t.Errorf("%s: lifted, %d lines, %v", name, len(back.Lines), e)
		}
	}
	g := [][]int{{1, 2, 9}, {-1, 2}}
	lines := make([]api.Line, 1000001)
	for i := range lines {
		lines[i] = []api.Line{input(0, 1, 2, 9), input(1, -1, 2), resolve(i-2, i-1, 1, 2, 9)}[i%3]
	}
	cut := make([]api.Line, 1000001)
	for i := range cut {
		cut[i] = []api.Line{input(0, 1, 2), input(1, -1, 2), resolve(i-2, i-1, 1, 2)}[i%3]
	}
	for n, err := range map[int]api.Errno{999999: api.OK, 1000000: api.OK, 1000001: api.ErrProof} {
		if q, e := proof.Restrict(g, proofOf(lines[:n]...), []int{-9}); e != err || (e == api.OK) != (len(q.Lines) > 0) {
			t.Errorf("Restrict of %d lines: %d, %v", n, len(q.Lines), e)
		}
		if q, e := proof.Lift(g, []int{-9}, proofOf(cut[:n]...)); e != err || e == api.OK && !same(q, proofOf(lines[:n]...)) || e != api.OK && !isNothing(q) {
			t.Errorf("Lift of %d lines: %d, %v", n, len(q.Lines), e)
		}
	}
}
