package sat_test

import (
	"fmt"
	"math"
	"slices"
	"testing"

	"skolem/api"
	"skolem/sat"
)

// P9.1

func TestMay(t *testing.T) {
	for _, c := range []struct {
		f    [][]int
		a    []int
		want bool
	}{
		{nil, nil, true}, {[][]int{}, []int{}, true}, {[][]int{nil}, nil, true}, {[][]int{{}, {1}, {}}, []int{-1}, true}, {[][]int{{1}, {1}}, nil, true}, {nil, []int{-65536}, true}, {[][]int{{1, -65536}}, []int{-1, 65536}, true},
		{[][]int{{2, 1}}, nil, false}, {nil, []int{2, 1}, false}, {[][]int{{1, 1}}, nil, false}, {nil, []int{1, 1}, false}, {nil, []int{-1, 1}, false}, {[][]int{{65537}}, nil, false}, {nil, []int{-65537}, false}, {nil, []int{0}, false}, {[][]int{{0}}, nil, false},
		{make([][]int, 20000), nil, true}, {make([][]int, 20001), nil, false}, {slices.Repeat([][]int{variables(1, 10)}, 20000), nil, true}, {slices.Repeat([][]int{variables(1, 50000)}, 4), variables(1, 65536), true}, {append(slices.Repeat([][]int{variables(1, 50000)}, 4), []int{9}), nil, false}, {nil, variables(1, 65537), false},
	} {
		if got := sat.May(c.f, c.a); got != c.want {
			t.Errorf("May of %d clauses, %s, and %d assumptions: %v", len(c.f), short(c.f), len(c.a), got)
		}
	}
	lists := slices.Concat(normalLists(1, 2, 65536), loose)
	for _, a := range lists {
		for _, f := range append(cnfsOf(1, lists), cnfsOf(2, lists[20:32])...) {
			if got := sat.May(f, a); got != naiveMay(f, a) {
				t.Errorf("May(%v, %v) = %v", f, a, got)
			}
		}
	}
}

// isNothing reports whether an answer says nothing but a Value and Steps.
func isNothing(r api.Sat) bool {
	return len(r.Model) == 0 && len(r.Core) == 0 && len(r.Proof.Lines) == 0 && !r.Proof.Cubes
}

// short is a question, or an answer, as an error message shows it.
func short(x any) string {
	s := fmt.Sprint(x)
	return s[:min(500, len(s))]
}

// held asks a question, and holds the answer against all that the section says, but for whether Unknown is right.
func held(t *testing.T, f [][]int, a []int, budget int64) api.Sat {
	t.Helper()
	r, e := sat.Solve(f, a, budget)
	ok := e == api.OK && r.Steps >= 0 && r.Steps <= budget
	switch r.Value {
	case api.True:
		ok = ok && isModel(r.Model, f, a) && isNothing(api.Sat{Core: r.Core, Proof: r.Proof})
	case api.False:
		l, proved := naiveCheck(f, r.Proof)
		ok = ok && proved && contains(a, negated(l)) && slices.Equal(r.Core, negated(l)) && len(r.Model) == 0 && r.Steps > 0
		m, checked := sat.Check(f, r.Proof)
		ok = ok && checked && slices.Equal(l, m)
	case api.Unknown:
		ok = ok && isNothing(r)
	default:
		ok = false
	}
	if !ok {
		t.Errorf("Solve(%s, %s, %d) = %s, %v", short(f), short(a), budget, short(r), e)
	}
	return r
}

// decided asks a question with a budget that must be enough; if there are few variables, the value is held against the truth.
func decided(t *testing.T, f [][]int, a []int) api.Sat {
	t.Helper()
	n := len(variablesOf(f, a))
	budget := int64(api.MaxBudget)
	if n <= 12 {
		budget = power(n)
	}
	r := held(t, f, a, budget)
	if r.Value == api.Unknown || n <= 12 && r.Value != naiveValue(f, a) {
		t.Errorf("Solve(%s, %s, %d): the value %d", short(f), short(a), budget, r.Value)
	}
	return r
}

// same reports whether two answers are equal.
func same(a, b api.Sat) bool {
	return a.Value == b.Value && a.Steps == b.Steps && slices.Equal(a.Model, b.Model) && slices.Equal(a.Core, b.Core) && a.Proof.Cubes == b.Proof.Cubes && slices.EqualFunc(a.Proof.Lines, b.Proof.Lines, sameLine)
}

func sameLine(a, b api.Line) bool {
	return a.Rule == b.Rule && a.A == b.A && a.B == b.B && a.Piv == b.Piv && slices.Equal(a.Lits, b.Lits)
}

// budgeted asks a question with all budgets around the one that is needed, and with few others.
func budgeted(t *testing.T, f [][]int, a []int) {
	t.Helper()
	whole := decided(t, f, a)
	budgets := []int64{0, 1, whole.Steps / 2, whole.Steps - 1, whole.Steps, whole.Steps + 1, 2 * whole.Steps, api.MaxBudget}
	for _, b := range budgets {
		if b < 0 {
			continue
		}
		r := held(t, f, a, b)
		if b < whole.Steps {
			if r.Value != api.Unknown || r.Steps != b {
				t.Errorf("Solve(%s, %s, %d), less than the %d that are needed: %d, %d steps", short(f), short(a), b, whole.Steps, r.Value, r.Steps)
			}
		} else if !same(r, whole) {
			t.Errorf("Solve(%s, %s, %d) is not as with another budget: %s, %s", short(f), short(a), b, short(r), short(whole))
		}
	}
}

func TestSolveExamples(t *testing.T) {
	xor := [][]int{{1, 2}, {-1, -2}, {2, 3}, {-2, -3}, {1, 3}, {-1, -3}}
	for _, c := range []struct {
		name   string
		f      [][]int
		a      []int
		budget int64
		value  api.Value
		list   []int // the model, or the core
		proved []int
	}{
		{"no clauses", nil, []int{3}, 0, api.True, []int{3}, nil},
		{"no clauses, no assumptions", nil, nil, 0, api.True, nil, nil},
		{"no clauses, an empty list", [][]int{}, []int{}, api.MaxBudget, api.True, nil, nil},
		{"many assumptions, no clauses", nil, []int{-1, 5, -65536}, 1, api.True, []int{-1, 5, -65536}, nil},
		{"the chapter's core", [][]int{{1, 2}, {-1, 2}}, []int{-2}, 10, api.False, []int{-2}, []int{2}},
		{"two units", [][]int{{1}, {-1}}, nil, 10, api.False, nil, nil},
		{"two units, budget 0", [][]int{{1}, {-1}}, nil, 0, api.Unknown, nil, nil},
		{"two units, budget 1", [][]int{{-1}, {1}}, nil, 1, api.False, nil, nil},
		{"two units among others", [][]int{{2, 3}, {-4}, {4}, {-2, -3}}, []int{2}, 1, api.False, nil, nil},
		{"the empty clause", [][]int{{}}, nil, 1, api.False, nil, nil},
		{"the empty clause as nil, budget 0", [][]int{nil}, nil, 0, api.Unknown, nil, nil},
		{"the empty clause among others", [][]int{{1, 2}, {3}, {}, {-1}}, nil, 1, api.False, nil, nil},
		{"the empty clause and units", [][]int{{1}, {-1}, {}}, nil, 1, api.False, nil, nil},
		{"the empty clause twice, assumptions", [][]int{{}, {-2}, {}}, []int{1, 2}, 1, api.False, nil, nil},
		{"a unit, and its negation assumed", [][]int{{-7}}, []int{7}, 1, api.False, []int{7}, []int{-7}},
		{"the same, budget 0", [][]int{{-7}}, []int{7}, 0, api.Unknown, nil, nil},
		{"a unit that is assumed", [][]int{{-7}}, []int{-7}, 0, api.True, []int{-7}, nil},
		{"units and assumptions", [][]int{{1}, {-2}, {3}}, []int{1, 2, 3}, 1, api.False, []int{2}, []int{-2}},
		{"all assumptions are needed", [][]int{{-1, -2, 3}}, []int{1, 2, -3}, 1, api.False, []int{1, 2, -3}, []int{-1, -2, 3}},
		{"one is not needed", [][]int{{-1, -3}}, []int{1, 2, 3, 4}, 1, api.False, []int{1, 3}, []int{-1, -3}},
		{"by way of clauses", [][]int{{-1, 2}, {-2, 3}, {-3, -9}}, []int{1, 5, 9}, 1, api.False, []int{1, 9}, []int{-1, -9}},
		{"by way of a unit", [][]int{{4}, {-1, -4, -9}}, []int{1, 5, 9}, 1, api.False, []int{1, 9}, []int{-1, -9}},
		{"no core although there are assumptions", xor, []int{4, -5}, 27, api.False, nil, nil},
		{"the same as a whole", xor, nil, 27, api.False, nil, nil},
		{"equal clauses", [][]int{{1}, {1}, {-1, 2}, {1}}, nil, 0, api.True, []int{1, 2}, nil},
		{"equal clauses, none satisfies them", [][]int{{1}, {-1}, {1}, {-1}}, nil, 1, api.False, nil, nil},
		{"the first and the last variable", [][]int{{1, 65536}, {-1, 65536}}, []int{-1}, 9, api.True, []int{-1, 65536}, nil},
		{"the same, none", [][]int{{1, 65536}, {-1, 65536}}, []int{-1, -65536}, 9, api.False, []int{-1, -65536}, []int{1, 65536}},
		{"chains of units", [][]int{{1}, {-1, 2}, {-2, 3}}, []int{-3, 4}, 1, api.False, []int{-3}, []int{3}},
		{"a model that units give", [][]int{{1}, {-1, -65536}, {-3, 65536}}, []int{-70}, 0, api.True, []int{1, -3, -70, -65536}, nil},
	} {
		r := held(t, c.f, c.a, c.budget)
		list := append(r.Model, r.Core...)
		proved, _ := naiveCheck(c.f, r.Proof)
		if r.Value != c.value || !slices.Equal(list, c.list) || !slices.Equal(proved, c.proved) {
			t.Errorf("%s: %v", c.name, r)
		}
		if c.value == api.Unknown && r.Steps != c.budget || c.budget == 0 && r.Steps != 0 || c.value == api.False && r.Steps < 1 {
			t.Errorf("%s: %d steps", c.name, r.Steps)
		}
	}
}

// TestInputsAlone: where a clause alone shows it, no resolution is needed.
func TestInputsAlone(t *testing.T) {
	for _, c := range []struct {
		f  [][]int
		a  []int
		at int // the clause
	}{
		{[][]int{{}}, nil, 0}, {[][]int{{1}, {2, 3}, nil}, []int{4}, 2}, {[][]int{{2}, {-7}}, []int{7}, 1}, {[][]int{{2, 3}, {-1, 4, -6}}, []int{1, -4, 6}, 1}, {[][]int{{65536}}, []int{-65536}, 0},
	} {
		r := held(t, c.f, c.a, 1)
		if want := (api.Line{Rule: api.RuInput, A: c.at, Lits: c.f[c.at]}); len(r.Proof.Lines) != 1 || !sameLine(r.Proof.Lines[0], want) {
			t.Errorf("Solve(%v, %v): %v", c.f, c.a, r.Proof.Lines)
		}
	}
}

func TestSolveErrors(t *testing.T) {
	refused := func(f [][]int, a []int, budget int64) {
		t.Helper()
		if r, e := sat.Solve(f, a, budget); e != api.ErrArg || r.Value != api.Unknown || r.Steps != 0 || !isNothing(r) {
			t.Errorf("Solve(%s, %s, %d) = %s, %v", short(f), short(a), budget, short(r), e)
		}
	}
	for _, budget := range []int64{0, 1, api.MaxBudget, -1} {
		for _, f := range looseCnfs() {
			refused(f, nil, budget)
			refused(f, []int{1}, budget)
		}
		for _, a := range append(loose, variables(1, 65537)) {
			refused(nil, a, budget)
			refused([][]int{{1}, {-1}}, a, budget)
			refused([][]int{{}}, a, budget)
		}
	}
	for _, budget := range []int64{-1, -2, math.MinInt64, -api.MaxBudget, api.MaxBudget + 1, api.MaxBudget * 2, math.MaxInt64} {
		for _, f := range [][][]int{nil, {{}}, {{1}, {-1}}, {{1}}} {
			refused(f, nil, budget)
			refused(f, []int{2}, budget)
		}
	}
}

// TestSmallCnfs asks all questions of up to four clauses of two variables, and of two of three, with all assumptions of these and another variable.
func TestSmallCnfs(t *testing.T) {
	two, three := normalLists(1, 2), normalLists(1, 2, 65536)
	for _, f := range slices.Concat(cnfsOf(0, two), cnfsOf(1, three), cnfsOf(2, three), cnfsOf(3, two)) {
		for _, a := range three {
			r := decided(t, f, a)
			for b := range r.Steps {
				if r := held(t, f, a, b); r.Value != api.Unknown || r.Steps != b {
					t.Errorf("Solve(%v, %v, %d) = %v", f, a, b, r)
				}
			}
		}
	}
	for _, f := range cnfsOf(4, two) {
		decided(t, f, nil)
	}
}

// TestOtherCnfs asks questions of up to twelve variables, most of them hard ones for their size.
func TestOtherCnfs(t *testing.T) {
	d := dice(9)
	count := [3]int{}
	conflicts := int64(0)
	for i := range 12000 {
		vars := d.vars(1 + d.below(12))
		n := 2 + d.below(2)
		most := len(vars) * n * n / 4
		f := d.cnf(most+d.below(2+most), n, vars)
		var a []int
		if i%2 == 0 {
			a = d.clauseOf(d.below(5), d.vars(len(vars)))
		}
		r := decided(t, f, a)
		count[r.Value]++
		conflicts += r.Steps
		if i%10 == 0 {
			budgeted(t, f, a)
		}
	}
	if count[api.True] < 3000 || count[api.False] < 3000 || conflicts < 5000 {
		t.Errorf("%v, %d conflicts", count, conflicts)
	}
}

// TestEnough: 3^n is enough for n variables, even where each clause is needed, and where there are very many.
func TestEnough(t *testing.T) {
	d := dice(12)
	for n := range 13 {
		all := slices.DeleteFunc(normalLists(variables(1, n)...), func(l []int) bool { return len(l) != n })
		if r := decided(t, all, nil); r.Value != api.False || len(r.Proof.Lines) < 2*len(all)-1 {
			t.Errorf("all clauses of %d variables: %d, %d lines", n, r.Value, len(r.Proof.Lines))
		}
		if n > 0 {
			without := d.below(len(all))
			f := slices.Delete(slices.Clone(all), without, without+1)
			if r := decided(t, mixed(&d, f), nil); !slices.Equal(r.Model, negated(all[without])) {
				t.Errorf("all clauses of %d variables but %v: %d, %v", n, all[without], r.Value, r.Model)
			}
		}
	}
	for range 40 {
		f := d.cnf(70, 3, variables(1, 12))
		decided(t, slices.Concat(f, d.cnf(9000, 7, variables(1, 12))), d.clauseOf(3, variables(1, 12)))
		decided(t, slices.Concat(d.cnf(500, 5, variables(1, 12)), d.cnf(2000, 8, variables(1, 12))), nil)
	}
	for _, f := range [][][]int{holes(4, 3), holes(3, 4), holes(6, 2), parities(&d, 3), parities(&d, 4)} {
		decided(t, f, nil)
	}
}

func TestBudgets(t *testing.T) {
	d := dice(10)
	for range 5 {
		budgeted(t, d.cnf(430, 3, variables(1, 100)), nil)
		budgeted(t, d.cnf(200, 3, variables(1, 50)), d.clauseOf(4, variables(1, 60)))
	}
	budgeted(t, holes(6, 5), []int{-100})
	budgeted(t, holes(5, 5), []int{1, 7})
	budgeted(t, parities(&d, 10), nil)
	budgeted(t, products(3), nil)
	budgeted(t, chain(500), []int{1, -500})
}
