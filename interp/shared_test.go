package interp_test

import (
	"slices"
	"testing"

	"skolem/api"
	"skolem/interp"
)

// P11.1

// shared holds Shared against the definition.
func shared(t *testing.T, f [][]int, left []int) []int {
	t.Helper()
	l, e := interp.Shared(f, left)
	if want, err := naiveShared(f, left); !slices.Equal(l, want) || e != err {
		t.Errorf("Shared(%v, %v) = %v, %v, not %v, %v", f, left, l, e, want, err)
	}
	return l
}

func TestShared(t *testing.T) {
	all := variables(1, 65536)
	for name, c := range map[string]struct {
		f          [][]int
		left, want []int
	}{
		"the chapter's example":              {[][]int{{1, 2}, {-1, 2}, {-2, 3}, {-3}}, []int{0, 1}, []int{2}},
		"the chapter's other example":        {[][]int{{1, 2}, {-1, 2}, {-2, 3}, {-3}}, []int{0}, []int{1, 2}},
		"no clauses":                         {nil, nil, nil},
		"no clauses, empty lists":            {[][]int{}, []int{}, nil},
		"the empty clause, right":            {[][]int{{}}, nil, nil},
		"the empty clause, left":             {[][]int{{}}, []int{0}, nil},
		"a clause with the empty one":        {[][]int{{1}, {}}, []int{0}, nil},
		"no number":                          {[][]int{{1, 2}, {-1, 2}}, nil, nil},
		"all numbers":                        {[][]int{{1, 2}, {-1, 2}}, []int{0, 1}, nil},
		"the first clause":                   {[][]int{{1, 2}, {-1, 2}}, []int{0}, []int{1, 2}},
		"the last clause":                    {[][]int{{1, 2}, {-1, 2}}, []int{1}, []int{1, 2}},
		"one sign on each side":              {[][]int{{-3}, {3}}, []int{0}, []int{3}},
		"the same sign on both":              {[][]int{{-3}, {-3}}, []int{1}, []int{3}},
		"a clause on both sides":             {[][]int{{1, -2, 3}, {1, -2, 3}}, []int{0}, []int{1, 2, 3}},
		"left alone, right alone, both":      {[][]int{{1, 2}, {-2, 3}}, []int{0}, []int{2}},
		"nothing is on both":                 {[][]int{{1, 2}, {3, 4}, {-1, 2}}, []int{0, 2}, nil},
		"each other clause":                  {[][]int{{1, 2}, {2, 3}, {3, 4}, {4, 5}}, []int{1, 3}, []int{2, 3, 4}},
		"in any order in the clauses":        {[][]int{{9}, {4}, {7}, {2}, {-7}, {-2}, {-9}, {-4}}, []int{0, 1, 2, 3}, []int{2, 4, 7, 9}},
		"several times on one side":          {[][]int{{5, 6}, {5, 6}, {5, -6}, {5}}, []int{0, 1, 2}, []int{5}},
		"the greatest variables":             {[][]int{{65535, 65536}, {-65536}, {-65535}}, []int{1, 2}, []int{65535, 65536}},
		"all variables":                      {[][]int{all, negated(all)}, []int{1}, all},
		"all variables in two clauses":       {[][]int{all[:40000], negated(all[40000:]), all}, []int{2}, all},
		"MaxClauses clauses, the last one":   {slices.Repeat([][]int{{1}}, 20000), []int{19999}, []int{1}},
		"MaxClauses clauses, all left":       {slices.Repeat([][]int{{1}}, 20000), numbers(0, 19999), nil},
		"MaxClauses clauses, all but one":    {slices.Repeat([][]int{{1}}, 20000), numbers(0, 19998), []int{1}},
		"MaxClauses clauses without literal": {make([][]int, 20000), []int{0, 1, 19999}, nil},
		"MaxLits literals":                   {slices.Repeat([][]int{variables(1, 50000)}, 4), []int{3}, variables(1, 50000)},
	} {
		if l, e := interp.Shared(c.f, c.left); !slices.Equal(l, c.want) || e != api.OK {
			t.Errorf("%s: %v, %v", name, l, e)
		}
		if l := shared(t, c.f, others(c.left, len(c.f))); !slices.Equal(l, c.want) {
			t.Errorf("%s, exchanged: %v", name, l)
		}
	}
}

// TestSharedOfSome holds Shared against the definition for all sides of some clauses.
func TestSharedOfSome(t *testing.T) {
	d := dice(1)
	for range 60 {
		f := d.cnf(1+d.below(6), 1+d.below(4), d.vars(1+d.below(8)))
		if d.below(4) == 0 {
			f = append(f, nil)
		}
		for _, left := range subsets(len(f)) {
			shared(t, f, left)
		}
	}
}

// TestSmallShared: all CNFs of up to three clauses of two variables.
func TestSmallShared(t *testing.T) {
	for n := range 4 {
		for _, f := range small(n, variables(1, 2)) {
			for _, left := range subsets(n) {
				shared(t, f, left)
			}
		}
	}
}

// small returns all lists of n clauses of some variables.
func small(n int, vars []int) [][][]int {
	all := [][][]int{nil}
	for range n {
		var longer [][][]int
		for _, f := range all {
			for _, c := range normalLists(vars...) {
				longer = append(longer, append(slices.Clip(slices.Clone(f)), c))
			}
		}
		all = longer
	}
	return all
}

func TestSharedErrors(t *testing.T) {
	f := [][]int{{1, 2}, {-1, 2}, {-2, 3}, {-3}}
	for _, left := range looseNumbers(4) {
		if l, e := interp.Shared(f, left); len(l) != 0 || e != api.ErrArg {
			t.Errorf("left %v: %v, %v", left, l, e)
		}
		shared(t, f, left)
	}
	for _, left := range looseNumbers(0) { // no clause has a number
		if len(left) > 0 {
			if l, e := interp.Shared(nil, left); len(l) != 0 || e != api.ErrArg {
				t.Errorf("left %v of no clauses: %v, %v", left, l, e)
			}
		}
	}
	for _, bad := range looseCnfs() {
		for _, left := range [][]int{nil, {0}, {len(bad) - 1}, numbers(0, len(bad)-1), {-1}, {len(bad)}} {
			if l, e := interp.Shared(bad, left); len(l) != 0 || e != api.ErrArg {
				t.Errorf("%d clauses that are no CNF: %v, %v", len(bad), l, e)
			}
		}
	}
	for _, n := range []int{20000, 20001, 65536} {
		full := make([][]int, 20000)
		if l, e := interp.Shared(full, []int{n}); len(l) != 0 || e != api.ErrArg {
			t.Errorf("clause %d of 20000: %v, %v", n, l, e)
		}
	}
}
