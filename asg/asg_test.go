package asg_test

import (
	"math"
	"slices"
	"testing"

	"skolem/api"
	"skolem/asg"
)

// P2.1

func TestValue(t *testing.T) {
	for _, c := range []struct {
		a    []int
		lit  int
		want api.Value
	}{
		{[]int{1, -2}, 2, api.False}, {[]int{1, -2}, -2, api.True}, {[]int{1, -2}, 1, api.True}, {[]int{1, -2}, -1, api.False}, {[]int{1, -2}, 3, api.Unknown}, {[]int{1, -2}, -3, api.Unknown},
		{[]int{-2}, 2, api.False}, {[]int{-2}, 3, api.Unknown}, {[]int{-2}, 0, api.Unknown}, {[]int{-2}, 1, api.Unknown},
		{nil, 1, api.Unknown}, {[]int{}, -1, api.Unknown}, {nil, 0, api.Unknown},
		{[]int{-65536}, 65536, api.False}, {[]int{-65536}, -65536, api.True}, {[]int{-65536}, 65537, api.Unknown}, {[]int{-65536}, -65537, api.Unknown},
		{[]int{1}, math.MinInt, api.Unknown}, {[]int{1}, math.MaxInt, api.Unknown},
		{variables(1, 65536), 65536, api.True}, {variables(1, 65536), -40000, api.False}, {variables(1, 65537), 1, api.Unknown},
	} {
		if got := asg.Value(c.a, c.lit); got != c.want {
			t.Errorf("Value of %d under %d literals, %v..: %d", c.lit, len(c.a), c.a[:min(4, len(c.a))], got)
		}
	}
	for _, a := range slices.Concat(normalLists(1, 2, 3, 65535, 65536), loose, listsOf(2, oddInts...)) {
		for _, x := range append([]int{-3, -2, 2, 3, 4}, oddInts...) {
			if got := asg.Value(a, x); got != naiveValue(a, x) {
				t.Errorf("Value(%v, %d) = %d", a, x, got)
			}
		}
	}
}

func TestClauseAndCube(t *testing.T) {
	a := []int{1, -2}
	for _, c := range []struct {
		a, l         []int
		clause, cube api.Value
	}{
		{a, nil, api.False, api.True}, {nil, nil, api.False, api.True}, {nil, []int{}, api.False, api.True},
		{a, []int{-1, 2, 3}, api.Unknown, api.False}, {a, []int{1, 2, 3}, api.True, api.False},
		{a, []int{-1, 2}, api.False, api.False}, {a, []int{1, -2}, api.True, api.True}, {a, []int{1, -2, 3}, api.True, api.Unknown},
		{a, []int{3, 65536}, api.Unknown, api.Unknown}, {nil, []int{1}, api.Unknown, api.Unknown},
		{a, []int{0}, api.Unknown, api.Unknown}, {a, []int{-2, 1}, api.Unknown, api.Unknown}, {[]int{-2, 1}, []int{1}, api.Unknown, api.Unknown}, {[]int{0}, nil, api.Unknown, api.Unknown},
		{variables(1, 65536), variables(1, 65536), api.True, api.True}, {variables(1, 65536), negated(variables(1, 65536)), api.False, api.False}, {variables(1, 65535), negated(variables(1, 65536)), api.Unknown, api.False},
	} {
		if v, w := asg.Clause(c.a, c.l), asg.Cube(c.a, c.l); v != c.clause || w != c.cube {
			t.Errorf("under %d literals, Clause and Cube of %d literals, %v..: %d, %d", len(c.a), len(c.l), c.l[:min(4, len(c.l))], v, w)
		}
	}
	lists := slices.Concat(normalLists(1, 2, 3, 4), loose)
	for _, a := range lists {
		for _, l := range lists {
			if got := asg.Clause(a, l); got != naiveClause(a, l) {
				t.Errorf("Clause(%v, %v) = %d", a, l, got)
			}
			if got := asg.Cube(a, l); got != naiveCube(a, l) {
				t.Errorf("Cube(%v, %v) = %d", a, l, got)
			}
		}
	}
}

// TestCnfAndUnder holds both against the definitions for all CNFs of two clauses of three variables.
func TestCnfAndUnder(t *testing.T) {
	lists := normalLists(1, 2, 3)
	cnfs := slices.Concat(cnfsOf(0, lists), cnfsOf(1, lists), cnfsOf(2, lists), cnfsOf(3, normalLists(1, 2)), looseCnfs())
	for _, f := range cnfs {
		for _, a := range append(lists, loose[:3]...) {
			if got := asg.Cnf(a, f); got != naiveCnf(a, f) {
				t.Errorf("Cnf(%v, %v..) = %d", a, f[:min(3, len(f))], got)
			}
			if got := asg.Under(a, f); !sameLists(got, naiveUnder(a, f)) {
				t.Errorf("Under(%v, %v..) = %v", a, f[:min(3, len(f))], got)
			}
		}
	}
	for _, a := range loose {
		for _, f := range [][][]int{nil, {{}}, {{1}}, {{-1}}} {
			if v, u := asg.Cnf(a, f), asg.Under(a, f); v != api.Unknown || len(u) != 0 {
				t.Errorf("Cnf and Under(%v, %v): %d, %v", a, f, v, u)
			}
		}
	}
}

func TestCnfExamples(t *testing.T) {
	for _, c := range []struct {
		a    []int
		f    [][]int
		v    api.Value
		rest [][]int
	}{
		{nil, nil, api.True, nil}, {[]int{-7}, [][]int{}, api.True, nil}, {nil, [][]int{nil}, api.False, [][]int{{}}},
		{[]int{1}, [][]int{{1, 2}, {-1, 3}, {-1}}, api.False, [][]int{{3}, {}}},
		{[]int{1}, [][]int{{2, 3}, {-1}}, api.False, [][]int{{2, 3}, {}}},              // one is open, one false
		{[]int{1, 2}, [][]int{{1}, {-1, 3}}, api.Unknown, [][]int{{3}}},                // one is true, one open
		{[]int{-3}, [][]int{{2, 3}, {1, 3}, {2}}, api.Unknown, [][]int{{2}, {1}, {2}}}, // in order, equal ones too
		{[]int{1, -2, 3}, [][]int{{1}, {-2, 4}, {3, 5}}, api.True, nil},
	} {
		if v, u := asg.Cnf(c.a, c.f), asg.Under(c.a, c.f); v != c.v || !sameLists(u, c.rest) {
			t.Errorf("Cnf and Under(%v, %v): %d, %v", c.a, c.f, v, u)
		}
	}
}

func TestLargeCnf(t *testing.T) {
	a := negated(variables(1, 65535))
	wide := slices.Repeat([][]int{variables(15537, 65536)}, 4) // MaxLits literals
	many := slices.Repeat([][]int{variables(65527, 65536)}, 20000)
	for _, f := range [][][]int{wide, many} {
		if v := asg.Cnf(a, f); v != api.Unknown {
			t.Errorf("Cnf of %d clauses: %d", len(f), v)
		}
		u := asg.Under(a, f)
		if len(u) != len(f) || slices.ContainsFunc(u, func(c []int) bool { return !slices.Equal(c, []int{65536}) }) {
			t.Errorf("Under of %d clauses", len(f))
		}
		for last, want := range map[int]api.Value{65536: api.True, -65536: api.False} {
			if v := asg.Cnf(append(a, last), f); v != want {
				t.Errorf("Cnf of %d clauses under %d: %d", len(f), last, v)
			}
		}
	}
}

func TestAgree(t *testing.T) {
	for _, c := range []struct {
		a, b []int
		want bool
	}{
		{nil, nil, true}, {nil, []int{}, true}, {[]int{1}, nil, true}, {nil, []int{-65536}, true},
		{[]int{1, -2}, []int{-2, 3}, true}, {[]int{1, -2}, []int{2}, false}, {[]int{1}, []int{2}, true}, {[]int{1}, []int{-1}, false}, {[]int{-65536}, []int{-65536}, true}, {[]int{-65536}, []int{65536}, false},
		{[]int{0}, nil, false}, {nil, []int{1, 1}, false}, {[]int{2, 1}, []int{2, 1}, false}, {[]int{65537}, []int{65537}, false},
		{variables(1, 65536), variables(1, 65536), true}, {variables(1, 65536), append(variables(1, 65535), -65536), false},
	} {
		if got := asg.Agree(c.a, c.b); got != c.want {
			t.Errorf("Agree of %d and %d literals: %v", len(c.a), len(c.b), got)
		}
	}
	lists := slices.Concat(normalLists(1, 2, 3, 4), loose)
	for _, a := range lists {
		for _, b := range lists {
			if got := asg.Agree(a, b); got != naiveAgree(a, b) {
				t.Errorf("Agree(%v, %v) = %v", a, b, got)
			}
		}
	}
}
