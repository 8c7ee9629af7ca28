package sat_test

import (
	"slices"
	"testing"

	"skolem/api"
	"skolem/sat"
)

// P9.1, for questions that are hard, or as long as they may be.

// TestHard asks questions of more variables, whose values are known from how they are made.
func TestHard(t *testing.T) {
	d := dice(98)
	for name, f := range map[string][][]int{"six holes": holes(7, 6), "seven holes": holes(8, 7), "parities": parities(&d, 20), "products of 4 bits": products(4), "products of 5 bits": products(5), "many clauses": d.clausesOf(20000, 3, variables(1, 400))} {
		r := decided(t, f, nil)
		if r.Value != api.False || len(r.Core) > 0 {
			t.Errorf("%s: %s", name, short(r))
		}
		if n := len(r.Proof.Lines); cap(r.Proof.Lines) != n {
			t.Errorf("%s: room for %d lines, of which there are %d", name, cap(r.Proof.Lines), n)
		}
	}
	for name, f := range map[string][][]int{"as many holes": holes(7, 7), "more holes": holes(9, 10), "a chain": chain(20000), "parities that may differ": parities(&d, 20)[:152], "few clauses": d.clausesOf(20000, 3, variables(1, 8000))} {
		if r := decided(t, f, nil); r.Value != api.True {
			t.Errorf("%s: %s", name, short(r))
		}
	}
}

// TestHardOnes asks questions that have a model about as often as not; those that have one have it with most of it as assumptions.
func TestHardOnes(t *testing.T) {
	d := dice(89)
	value := [3]int{}
	for range 40 {
		f := d.clausesOf(510, 3, variables(1, 120))
		r := decided(t, f, nil)
		value[r.Value]++
		if r.Value == api.False {
			continue
		}
		for i, x := range r.Model {
			if again := decided(t, f, slices.Concat(r.Model[:i], r.Model[i+1:])); again.Value != api.True {
				t.Errorf("%s: the model %v, but not without %d", short(f), r.Model, x)
			}
			if opposite := decided(t, f, slices.Concat(r.Model[:i], []int{-x})); opposite.Value == api.False && !slices.Contains(opposite.Core, -x) {
				t.Errorf("%s: the model %v, but not the first %d of it", short(f), r.Model, i)
			}
		}
	}
	if value[api.True] < 5 || value[api.False] < 5 {
		t.Errorf("%v", value)
	}
}

// TestTooLong: a search that comes to too many lines ends without an answer, though there is budget left; what has an answer has a proof that is not too long.
func TestTooLong(t *testing.T) {
	d := dice(0)
	unknown := 0
	for _, f := range [][][]int{d.clausesOf(970, 3, variables(1, 225)), products(6), products(7)} {
		r := held(t, f, nil, api.MaxBudget)
		if r.Value == api.Unknown {
			unknown++
			if r.Steps == 0 || r.Steps == api.MaxBudget {
				t.Errorf("%d steps", r.Steps)
			}
			if less := held(t, f, nil, r.Steps-1); less.Value != api.Unknown || less.Steps != r.Steps-1 {
				t.Errorf("Unknown with a budget of %d, %s with one less", r.Steps, short(less))
			}
		}
	}
	if unknown == 0 {
		t.Error("all have answers")
	}
}

// TestLongClauses: clauses of very many literals that become false one after the other.
func TestLongClauses(t *testing.T) {
	all := variables(1, 65536)
	for _, f := range [][][]int{{all}, {all, all, all}, {{1, 2}, all, {65535, 65536}}} {
		r, e := sat.Solve(f, negated(all), 1)
		if r.Value != api.False || len(f[0]) > 2 && !slices.Equal(r.Core, negated(all)) || len(r.Proof.Lines) != 1 || r.Steps != 1 || e != api.OK {
			t.Errorf("%d clauses: %d, a core of %d, %d lines, %d steps, %v", len(f), r.Value, len(r.Core), len(r.Proof.Lines), r.Steps, e)
		}
		r, e = sat.Solve(f, negated(all[1:]), 1)
		if want := append([]int{1}, negated(all[1:])...); len(f[0]) > 2 && (r.Value != api.True || !slices.Equal(r.Model, want) || e != api.OK) {
			t.Errorf("%d clauses: %d, %v", len(f), r.Value, e)
		}
	}
	f := [][]int{variables(1, 3000)} // and one that has to be resolved with as many others
	for v := 1; v < 3000; v++ {
		f = append(f, []int{-v})
	}
	for _, a := range [][]int{{-3000}, variables(1, 1)} {
		r, e := sat.Solve(f, a, 1)
		l, ok := sat.Check(f, r.Proof)
		if r.Value != api.False || !slices.Equal(r.Core, a) || !slices.Equal(l, negated(a)) || !ok || e != api.OK {
			t.Errorf("assuming %v: %d, %v, %d lines, %v", a, r.Value, r.Core, len(r.Proof.Lines), e)
		}
	}
	if r := held(t, f, nil, 0); r.Value != api.True || r.Model[2999] != 3000 {
		t.Errorf("nothing assumed: %s", short(r))
	}
}

// TestLargeProofs: a proof that would have more literals than a call may return.
func TestLargeProofs(t *testing.T) {
	f := [][]int{variables(1, 65536)}
	for v := 1; v <= 9000; v++ {
		f = append(f, []int{-v})
	}
	if r, e := sat.Solve(f, negated(variables(9001, 65536)), api.MaxBudget); r.Value != api.Unknown || !isNothing(r) || r.Steps != 1 || e != api.OK {
		t.Errorf("%d, %d lines, %d steps, %v", r.Value, len(r.Proof.Lines), r.Steps, e)
	}
}

// TestAtTheLimits: MaxClauses clauses, MaxLits literals, and all variables; one more is ErrArg.
func TestAtTheLimits(t *testing.T) {
	line := append(chain(19999), []int{1}, []int{-19999})
	if r := decided(t, line, nil); r.Value != api.False || len(r.Proof.Lines) != 2*20000-1 {
		t.Errorf("a chain of 20,000 clauses: %s", short(r))
	}
	if r := decided(t, line[:19999], []int{-19999, 20000}); r.Value != api.False || !slices.Equal(r.Core, []int{-19999}) {
		t.Errorf("a chain of 19,999 clauses: %s", short(r))
	}
	wide := make([][]int, 20000)
	for i := range wide {
		wide[i] = variables(1+i, 10+i)
		wide[i][i%10] *= -1
	}
	if r := decided(t, wide, []int{65536}); r.Value != api.True {
		t.Errorf("20,000 clauses of 10 literals: %s", short(r))
	}
	four := [][]int{variables(1, 50000), negated(variables(1, 50000)), variables(10000, 59999), negated(variables(15537, 65536))}
	if r := decided(t, four, []int{7, -8}); r.Value != api.True {
		t.Errorf("4 clauses of 50,000 literals: %s", short(r))
	}
	for name, f := range map[string][][]int{"clauses": append(line[:20000:20000], []int{5}), "literals": append(four[:4:4], []int{5}), "empty clauses": make([][]int, 20001), "literals in 20,000 clauses": append(wide[:19999:19999], variables(1, 11))} {
		if r, e := sat.Solve(f, nil, 1); e != api.ErrArg || r.Value != api.Unknown || !isNothing(r) || sat.May(f, nil) {
			t.Errorf("too many %s: %s, %v", name, short(r), e)
		}
		if _, ok := sat.Check(f, proof(input(0, f[0]...))); ok {
			t.Errorf("too many %s: a proof", name)
		}
	}
	if r := held(t, make([][]int, 20000), negated(variables(1, 65536)), 1); r.Value != api.False || len(r.Core) > 0 {
		t.Errorf("20,000 empty clauses: %s", short(r))
	}
	all := negated(variables(1, 65536))
	if r, e := sat.Solve(nil, all, 0); r.Value != api.True || !slices.Equal(r.Model, all) || e != api.OK {
		t.Errorf("all variables assumed: %d, %v", r.Value, e)
	}
	if r, e := sat.Solve([][]int{variables(65535, 65536)}, all, 1); r.Value != api.False || !slices.Equal(r.Core, all[65534:]) || e != api.OK {
		t.Errorf("all variables assumed, a clause: %d, %v, %v", r.Value, r.Core, e)
	}
	for v := 1; v <= 65536; v += 13107 { // the first variable, the last one, and some between them
		for _, f := range [][][]int{{{v}}, {{-v}}, {{v}, {-v}}} {
			for _, a := range [][]int{nil, {v}, {-v}} {
				decided(t, f, a)
			}
		}
	}
}
