package lits_test

import (
	"math"
	"slices"
	"testing"

	"skolem/api"
	"skolem/lits"
)

// P1.1

func TestVar(t *testing.T) {
	for x, want := range map[int]int{1: 1, -1: 1, 7: 7, -7: 7, 65535: 65535, 65536: 65536, -65536: 65536, 0: 0, 65537: 0, -65537: 0, math.MaxInt: 0, math.MinInt: 0, math.MinInt + 1: 0, 1 << 32: 0, 1<<32 + 1: 0, -1 << 32: 0} {
		if got := lits.Var(x); got != want {
			t.Errorf("Var(%d) = %d, not %d", x, got, want)
		}
	}
}

func TestMay(t *testing.T) {
	for _, c := range []struct {
		l    []int
		want bool
	}{
		{nil, true}, {[]int{}, true}, {[]int{1}, true}, {[]int{-1}, true}, {[]int{-65536}, true}, {[]int{-1, 2, -3, 65536}, true},
		{variables(1, 65536), true}, {append(variables(1, 65536), 65536), false}, {append(variables(1, 65536), 65537), false},
		{[]int{1, 1}, false}, {[]int{-1, 1}, false}, {[]int{1, -1}, false}, {[]int{2, 1}, false}, {[]int{1, -3, 2}, false},
		{[]int{0}, false}, {[]int{1, 0}, false}, {[]int{0, 1}, false}, {[]int{1, 65537}, false}, {[]int{-65537}, false}, {[]int{math.MinInt}, false}, {[]int{math.MaxInt}, false}, {[]int{1, math.MinInt}, false},
	} {
		if got := lits.May(c.l); got != c.want {
			t.Errorf("May of %d elements, %v..: %v", len(c.l), c.l[:min(4, len(c.l))], got)
		}
	}
	for _, l := range listsOf(3, oddInts...) {
		if lits.May(l) != naiveMay(l) {
			t.Errorf("May(%v) = %v", l, lits.May(l))
		}
	}
}

func TestMayCnf(t *testing.T) {
	full := slices.Repeat([][]int{variables(1, 50000)}, 4) // MaxLits literals
	for name, c := range map[string]struct {
		f    [][]int
		want bool
	}{
		"nil":                     {nil, true},
		"no lists":                {[][]int{}, true},
		"the empty list":          {[][]int{{}}, true},
		"nil as a list":           {[][]int{nil, {1}, nil}, true},
		"any order":               {[][]int{{2, -7}, {1}, {2, -7}}, true},
		"a list that descends":    {[][]int{{1}, {2, 1}}, false},
		"a list with 0":           {[][]int{{1}, {0}}, false},
		"both literals":           {[][]int{{-1, 1}}, false},
		"the least int":           {[][]int{{math.MinInt}}, false},
		"MaxClauses":              {make([][]int, 20000), true},
		"one more than it":        {make([][]int, 20001), false},
		"MaxLits":                 {full, true},
		"MaxLits and empty lists": {append(slices.Clone(full), nil, nil), true},
		"one more than MaxLits":   {append(slices.Clone(full), []int{1}), false},
		"both limits":             {slices.Repeat([][]int{variables(1, 10)}, 20000), true},
		"lists far beyond":        {slices.Repeat([][]int{variables(1, 65536)}, 20000), false},
	} {
		if got := lits.MayCnf(c.f); got != c.want {
			t.Errorf("MayCnf of %s: %v", name, got)
		}
	}
}

func TestNorm(t *testing.T) {
	for _, c := range []struct {
		l, want []int
		e       api.Errno
	}{
		{nil, nil, api.OK}, {[]int{}, nil, api.OK},
		{[]int{3, -1, 3}, []int{-1, 3}, api.OK},
		{[]int{2, 1, -2}, nil, api.ErrTaut}, {[]int{-2, 2}, nil, api.ErrTaut}, {[]int{65536, -65536}, nil, api.ErrTaut},
		{[]int{0}, nil, api.ErrArg}, {[]int{65537}, nil, api.ErrArg}, {[]int{-65537}, nil, api.ErrArg}, {[]int{math.MinInt}, nil, api.ErrArg}, {[]int{math.MaxInt}, nil, api.ErrArg},
		{[]int{1, -1, 0}, nil, api.ErrArg}, // both errors apply
		{[]int{65536, -65535, 1}, []int{1, -65535, 65536}, api.OK},
	} {
		got, e := lits.Norm(c.l)
		if !slices.Equal(got, c.want) || e != c.e {
			t.Errorf("Norm(%v) = %v, %v", c.l, got, e)
		}
	}
	for _, l := range listsOf(4, -3, -2, -1, 1, 2, 3, 65536) {
		got, e := lits.Norm(l)
		want, f := naiveNorm(l)
		if !slices.Equal(got, want) || e != f {
			t.Errorf("Norm(%v) = %v, %v, not %v, %v", l, got, e, want, f)
		}
	}
}

func TestNormAtTheLimit(t *testing.T) {
	down := variables(1, 65536)
	slices.Reverse(down)
	most := append(slices.Repeat(down, 3), slices.Repeat([]int{5}, 200000-3*65536)...)
	if got, e := lits.Norm(most); !slices.Equal(got, variables(1, 65536)) || e != api.OK {
		t.Errorf("Norm of MaxLits elements: %d elements, %v", len(got), e)
	}
	if got, e := lits.Norm(append(most, 5)); got != nil || e != api.ErrArg {
		t.Errorf("Norm of one more: %d elements, %v", len(got), e)
	}
	most[199999] = -5
	if got, e := lits.Norm(most); got != nil || e != api.ErrTaut {
		t.Errorf("Norm of MaxLits elements with 5 and -5: %d elements, %v", len(got), e)
	}
	if got, e := lits.Norm(append(most, 5)); got != nil || e != api.ErrArg {
		t.Errorf("Norm of one more with 5 and -5: %d elements, %v", len(got), e)
	}
}

func TestHas(t *testing.T) {
	for _, l := range listsOf(2, oddInts...) {
		for _, x := range oddInts {
			if lits.Has(l, x) != slices.Contains(l, x) {
				t.Errorf("Has(%v, %d) = %v", l, x, lits.Has(l, x))
			}
		}
	}
	if lits.Has(nil, 0) || lits.Has([]int{1, -2}, 2) || !lits.Has([]int{5, 3, 5, 1}, 1) {
		t.Error("Has")
	}
}

func TestParts(t *testing.T) {
	vars := listsOf(2, math.MinInt, -2, 0, 1, 2, 3, 65536, 65537)
	for _, l := range append(normalLists(1, 2, 3, 65536), listsOf(2, -65537, -2, 0, 1, 2)...) {
		var neg []int
		if naiveMay(l) {
			for _, x := range l {
				neg = append(neg, -x)
			}
		}
		if got := lits.Neg(l); !slices.Equal(got, neg) {
			t.Errorf("Neg(%v) = %v", l, got)
		}
		for _, v := range oddInts {
			if got := lits.Without(l, v); !slices.Equal(got, naiveWithout(l, v)) {
				t.Errorf("Without(%v, %d) = %v", l, v, got)
			}
		}
		for _, some := range vars {
			if got := lits.Within(l, some); !slices.Equal(got, naiveWithin(l, some)) {
				t.Errorf("Within(%v, %v) = %v", l, some, got)
			}
		}
	}
}

func TestPartsOfLongLists(t *testing.T) {
	all := lits.Neg(variables(1, 65536))
	if len(all) != 65536 || all[0] != -1 || all[65535] != -65536 {
		t.Error("Neg of all variables")
	}
	if got := lits.Without(all, 65536); len(got) != 65535 || got[65534] != -65535 {
		t.Error("Without of all variables")
	}
	several := slices.Repeat([]int{9, 65537, 3, 0, 65536, -4, 3}, 100000)
	if got := lits.Within(all, several); !slices.Equal(got, []int{-3, -9, -65536}) {
		t.Error("Within of all variables:", got)
	}
	if got := lits.Within(all, variables(1, 65536)); !slices.Equal(got, all) {
		t.Error("Within of all variables, of all of them")
	}
}

func TestVars(t *testing.T) {
	for _, c := range []struct {
		f    [][]int
		want []int
	}{
		{nil, nil}, {[][]int{}, nil}, {[][]int{nil, {}}, nil},
		{[][]int{{2, -7}, {7, 0}}, []int{2, 7}},
		{[][]int{{65536}, {-65536, 1, 1, -1}}, []int{1, 65536}},
		{[][]int{{3, 2, 1}, {-2}}, []int{1, 2, 3}},
		{[][]int{oddInts}, []int{1, 65535, 65536}},
		{[][]int{{0, 65537, -65537, math.MinInt, math.MaxInt}}, nil},
		{slices.Repeat([][]int{{5, -4}}, 300000), []int{4, 5}}, // no CNF
		{[][]int{variables(1, 65536)}, variables(1, 65536)},
	} {
		if got := lits.Vars(c.f); !slices.Equal(got, c.want) {
			t.Errorf("Vars of %d lists: %v", len(c.f), got)
		}
	}
}

func TestSort(t *testing.T) {
	for _, c := range []struct{ f, want [][]int }{
		{nil, nil}, {[][]int{nil, {}, nil}, [][]int{{}}},
		{[][]int{{2, -7}, {}, {1}, {2, -7}, {1, 2}, {-1}, {2, 7}, {1, -2}}, [][]int{{}, {-1}, {1}, {1, -2}, {1, 2}, {2, -7}, {2, 7}}},
		{[][]int{{2}, {1, 5}, {1}}, [][]int{{1}, {1, 5}, {2}}},
		{[][]int{{1}, {2, 1}}, nil}, {[][]int{{0}}, nil}, {[][]int{{1, -1}}, nil},
		{make([][]int, 20000), [][]int{{}}}, {make([][]int, 20001), nil},
	} {
		if got := lits.Sort(c.f); !sameLists(got, c.want) {
			t.Errorf("Sort(%v) = %v", c.f[:min(9, len(c.f))], got)
		}
	}
	all := normalLists(1, 2, 3, 4)
	sorted := lits.Sort(append(slices.Clone(all), all...))
	if len(sorted) != len(all) {
		t.Errorf("Sort of %d lists, each twice: %d", len(all), len(sorted))
	}
	for i, l := range sorted {
		if i > 0 && naiveCompare(sorted[i-1], l) != -1 {
			t.Errorf("Sort: %v before %v", sorted[i-1], l)
		}
	}
}

func TestSortAtTheLimit(t *testing.T) {
	var f [][]int
	for i := range 20000 {
		f = append(f, variables(20001-i, 20010-i))
	}
	got := lits.Sort(f)
	slices.Reverse(f)
	if !sameLists(got, f) {
		t.Errorf("Sort of MaxClauses lists with MaxLits literals: %d lists", len(got))
	}
	f[7] = variables(8, 18)
	if got := lits.Sort(f); got != nil {
		t.Errorf("Sort of one literal more: %d lists", len(got))
	}
}
