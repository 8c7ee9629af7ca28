package sat_test

import (
	"slices"
	"testing"

	"skolem/api"
	"skolem/sat"
)

// P9.3 and P9.4

// TestProvedHolds: each line of a proof holds in every assignment that satisfies the clauses.
func TestProvedHolds(t *testing.T) {
	d := dice(93)
	lines := 0
	for range 1500 {
		vars := d.vars(7)
		f := d.cnf(8+d.below(20), 3, vars)
		r := decided(t, f, d.clauseOf(4+d.below(3), vars))
		all := models(f, nil)
		for _, l := range r.Proof.Lines {
			for _, m := range all {
				if !satisfies(m, l.Lits) {
					t.Errorf("%v, %v: the line %v, but the model %v", f, r.Core, l, m)
				}
				lines++
			}
		}
	}
	if lines < 5000 {
		t.Errorf("%d lines and models", lines)
	}
}

// TestChecked: what Check accepts, lines of all sorts, holds as well.
func TestChecked(t *testing.T) {
	d := dice(94)
	for range 2000 {
		f := d.cnf(5, 3, variables(1, 5))
		var lines []api.Line
		for i, c := range f {
			lines = append(lines, input(i, c...))
		}
		all := models(f, nil)
		for range 300 {
			a, b := d.below(len(lines)), d.below(len(lines))
			l := resolve(a, b, 1+d.below(5), d.clauseOf(d.below(4), variables(1, 5))...)
			if proved, ok := sat.Check(f, proof(append(slices.Clip(lines), l)...)); ok {
				lines = append(lines, l)
				if slices.ContainsFunc(all, func(m []int) bool { return !satisfies(m, proved) }) {
					t.Errorf("%v: the line %v is accepted", f, l)
				}
			}
		}
	}
}

// TestCoreAlone: the same clauses refute a core alone, and their proof is one of a part of it.
func TestCoreAlone(t *testing.T) {
	d := dice(95)
	cores, smaller := 0, 0
	for range 4000 {
		vars := d.vars(10)
		f := d.cnf(10+d.below(30), 3, vars)
		a := d.clauseOf(3+d.below(8), vars)
		r := decided(t, f, a)
		if r.Value != api.False {
			continue
		}
		alone := decided(t, f, r.Core)
		if alone.Value != api.False || !contains(r.Core, alone.Core) {
			t.Errorf("%v: %v has the core %v, and that has %v", f, a, r.Core, alone)
		}
		if len(r.Core) > 0 {
			cores++
		}
		if len(r.Core) < len(a) {
			smaller++
		}
	}
	for _, f := range [][][]int{holes(6, 5), parities(&d, 12), d.cnf(700, 3, variables(1, 120))} {
		// Each clause holds only if a variable of its own is assumed.
		last := len(f) * 3
		var under [][]int
		var a []int
		for i, c := range f {
			under = append(under, append(slices.Clone(c), -last-i))
			a = append(a, last+i)
		}
		if r := decided(t, under, a); r.Value != api.False || len(r.Core) == 0 || decided(t, under, r.Core).Value != api.False {
			t.Errorf("%s: %s", short(f), short(r))
		}
	}
	if cores < 1000 || smaller < 1000 {
		t.Errorf("%d cores, %d are smaller than the assumptions", cores, smaller)
	}
}

// TestOrderOfClauses: the same clauses in another order, and some of them twice, have the same value, with any budget.
func TestOrderOfClauses(t *testing.T) {
	d := dice(96)
	hold := func(f [][]int, a []int) {
		t.Helper()
		r := decided(t, f, a)
		for range 4 {
			other := mixed(&d, append(slices.Clip(f), f[:min(len(f), d.below(5))]...))
			for _, b := range []int64{0, 1, r.Steps / 2, r.Steps - 1, r.Steps, r.Steps + 1, api.MaxBudget} {
				if b < 0 {
					continue
				}
				first, second := held(t, f, a, b), held(t, other, a, b)
				if first.Value != second.Value || len(first.Core) != len(second.Core) {
					t.Errorf("Solve(%s, %v, %d) = %s, and in another order %s", short(f), a, b, short(first), short(second))
				}
			}
		}
	}
	for range 400 {
		vars := d.vars(9)
		hold(d.cnf(9+d.below(40), 3, vars), d.clauseOf(d.below(4), vars))
	}
	hold(holes(6, 5), nil)
	hold(parities(&d, 12), []int{1})
	hold(d.cnf(430, 3, variables(1, 100)), nil)
}

// TestAgain: equal calls return equal results, whatever was called between them.
func TestAgain(t *testing.T) {
	d := dice(97)
	questions := [][][]int{holes(7, 6), parities(&d, 15), products(4), d.cnf(640, 3, variables(1, 150)), chain(2000), nil, {{}}}
	for range 200 {
		questions = append(questions, d.cnf(d.below(60), 3, d.vars(12)))
	}
	var first []api.Sat
	for _, f := range questions {
		r, _ := sat.Solve(f, []int{1, -3}, api.MaxBudget)
		first = append(first, r)
	}
	for i, f := range questions {
		if r, e := sat.Solve(f, []int{1, -3}, api.MaxBudget); !same(r, first[i]) || e != api.OK {
			t.Errorf("Solve(%s) = %s, %v, and %s before", short(f), short(r), e, short(first[i]))
		}
	}
}
