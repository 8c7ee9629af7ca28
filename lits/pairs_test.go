package lits_test

import (
	"math"
	"slices"
	"testing"

	"skolem/api"
	"skolem/lits"
)

// P1.2

func TestJoin(t *testing.T) {
	for _, c := range []struct {
		a, b, want []int
		e          api.Errno
	}{
		{nil, nil, nil, api.OK}, {[]int{-1, 3}, nil, []int{-1, 3}, api.OK}, {[]int{}, []int{2}, []int{2}, api.OK},
		{[]int{1, -4}, []int{2, -4, 5}, []int{1, 2, -4, 5}, api.OK},
		{[]int{1}, []int{-1}, nil, api.ErrTaut}, {[]int{1, 2, 9}, []int{3, -9}, nil, api.ErrTaut},
		{[]int{2, 1}, nil, nil, api.ErrArg}, {nil, []int{0}, nil, api.ErrArg}, {[]int{1, 65537}, []int{-1}, nil, api.ErrArg}, {[]int{1}, []int{-1, 1}, nil, api.ErrArg},
	} {
		if got, e := lits.Join(c.a, c.b); !slices.Equal(got, c.want) || e != c.e {
			t.Errorf("Join(%v, %v) = %v, %v", c.a, c.b, got, e)
		}
	}
}

func TestResolve(t *testing.T) {
	for _, c := range []struct {
		a, b []int
		v    int
		want []int
		e    api.Errno
	}{
		{[]int{1, 2}, []int{-2, 3}, 2, []int{1, 3}, api.OK},
		{[]int{1}, []int{-1}, 1, nil, api.OK},
		{[]int{65536}, []int{7, -65536}, 65536, []int{7}, api.OK},
		{[]int{-3, 5, 6}, []int{-3, -5, 6}, 5, []int{-3, 6}, api.OK},
		{[]int{1, 2}, []int{-1, -2}, 2, nil, api.ErrTaut},
		{[]int{1, 2}, []int{-1, -2}, 1, nil, api.ErrTaut},
		{[]int{1, 2}, []int{-1, -2}, 3, nil, api.ErrNone},
		{[]int{-1}, []int{1}, 1, nil, api.ErrNone}, // the other way round
		{[]int{1}, []int{-1}, -1, nil, api.ErrNone}, {[]int{-1}, []int{1}, -1, nil, api.ErrNone},
		{[]int{1, 2}, []int{1, -2}, 1, nil, api.ErrNone}, {[]int{2}, []int{-1}, 1, nil, api.ErrNone},
		{nil, nil, 1, nil, api.ErrNone}, {nil, nil, 0, nil, api.ErrNone},
		{[]int{1}, []int{-1}, 65537, nil, api.ErrNone}, {[]int{1}, []int{-1}, math.MinInt, nil, api.ErrNone}, {[]int{1}, []int{-1}, math.MaxInt, nil, api.ErrNone},
		{[]int{1, -1}, []int{-1}, 1, nil, api.ErrArg}, {[]int{1}, []int{-1, -1}, 1, nil, api.ErrArg}, {[]int{0}, []int{0}, 0, nil, api.ErrArg}, {[]int{2, 1}, []int{-1}, -9, nil, api.ErrArg},
	} {
		if got, e := lits.Resolve(c.a, c.b, c.v); !slices.Equal(got, c.want) || e != c.e {
			t.Errorf("Resolve(%v, %v, %d) = %v, %v", c.a, c.b, c.v, got, e)
		}
	}
	if got, e := lits.Resolve([]int{1, 2}, []int{-2, -1}, 2); len(got) > 0 || e != api.ErrArg {
		t.Error("Resolve of the chapter's -2 -1, which is written in another order than a normal list:", got, e)
	}
}

func TestSub(t *testing.T) {
	for _, c := range []struct {
		a, b []int
		want bool
	}{
		{nil, nil, true}, {nil, []int{1}, true}, {[]int{2, -9}, []int{1, 2, 3, -9}, true}, {[]int{1, 2}, []int{1, 2}, true},
		{[]int{1}, nil, false}, {[]int{1}, []int{-1}, false}, {[]int{1, 4}, []int{1, 2, 3}, false}, {[]int{1, 2, 3}, []int{1, 3}, false},
		{nil, []int{2, 1}, false}, {[]int{1, 1}, []int{1}, false}, {[]int{0}, []int{0}, false}, {[]int{65537}, []int{65537}, false},
	} {
		if got := lits.Sub(c.a, c.b); got != c.want {
			t.Errorf("Sub(%v, %v) = %v", c.a, c.b, got)
		}
	}
}

func TestStrike(t *testing.T) {
	for _, c := range []struct {
		a, b []int
		want int
	}{
		{[]int{-1, 2}, []int{1, 2, 3}, 1}, {[]int{1, 2}, []int{-1, 2}, -1}, {[]int{-65536}, []int{3, 65536}, 65536},
		{[]int{-1, 2}, []int{1, 3}, 0}, {[]int{2}, []int{1, 2}, 0}, {nil, []int{1}, 0}, {nil, nil, 0}, {[]int{1}, nil, 0},
		{[]int{-1, -2}, []int{1, 2}, 0}, {[]int{-1, -2, -3}, []int{1, 2, 3}, 0}, {[]int{-1, 2, -3}, []int{1, 2, 3}, 0},
		{[]int{2, -1}, []int{1, 2, 3}, 0}, {[]int{-1}, []int{1, 1}, 0}, {[]int{0}, []int{0}, 0}, {[]int{65537}, []int{-65537}, 0}, {[]int{math.MinInt}, []int{math.MinInt}, 0},
	} {
		if got := lits.Strike(c.a, c.b); got != c.want {
			t.Errorf("Strike(%v, %v) = %d", c.a, c.b, got)
		}
	}
}

// TestPairsOfLists holds all functions of two lists against the naive ones, for all pairs of many lists, normal and not.
func TestPairsOfLists(t *testing.T) {
	some := append(normalLists(1, 2, 3, 4), []int{0}, []int{65537}, []int{1, 1}, []int{-1, 1}, []int{2, 1}, []int{3, -2, 4}, []int{math.MinInt})
	for _, a := range some {
		for _, b := range some {
			join, je := lits.Join(a, b)
			want, we := naiveJoin(a, b)
			if !slices.Equal(join, want) || je != we {
				t.Errorf("Join(%v, %v) = %v, %v", a, b, join, je)
			}
			for v := -2; v <= 5; v++ {
				got, e := lits.Resolve(a, b, v)
				want, we := naiveResolve(a, b, v)
				if !slices.Equal(got, want) || e != we {
					t.Errorf("Resolve(%v, %v, %d) = %v, %v", a, b, v, got, e)
				}
			}
			if lits.Sub(a, b) != naiveSub(a, b) {
				t.Errorf("Sub(%v, %v) = %v", a, b, lits.Sub(a, b))
			}
			if lits.Strike(a, b) != naiveStrike(a, b) {
				t.Errorf("Strike(%v, %v) = %d", a, b, lits.Strike(a, b))
			}
			if lits.Compare(a, b) != naiveCompare(a, b) {
				t.Errorf("Compare(%v, %v) = %d", a, b, lits.Compare(a, b))
			}
		}
	}
}

func TestCompare(t *testing.T) {
	for _, c := range []struct {
		a, b []int
		want int
	}{
		{[]int{1}, []int{-1}, 1}, {[]int{1, 2}, []int{1}, 1}, {[]int{2}, []int{1, 5}, 1},
		{nil, nil, 0}, {nil, []int{}, 0}, {nil, []int{0}, -1}, {[]int{0}, []int{0}, 0}, {[]int{0}, []int{-1}, -1},
		{[]int{-5}, []int{4}, 1}, {[]int{-5}, []int{5}, -1}, {[]int{3, -2}, []int{3, 2}, -1}, {[]int{1, 9}, []int{2}, -1},
		{[]int{math.MinInt}, []int{math.MaxInt}, 1}, {[]int{math.MinInt}, []int{math.MinInt}, 0}, {[]int{math.MinInt + 1}, []int{math.MaxInt}, -1}, {[]int{math.MinInt}, []int{math.MinInt + 1}, 1}, {[]int{math.MinInt}, []int{0}, 1}, {[]int{math.MinInt}, []int{1}, 1},
	} {
		if got, back := lits.Compare(c.a, c.b), lits.Compare(c.b, c.a); got != c.want || back != -c.want {
			t.Errorf("Compare(%v, %v) = %d, and %d the other way round", c.a, c.b, got, back)
		}
	}
	some := listsOf(2, oddInts...)
	for _, a := range some {
		for _, b := range some {
			if lits.Compare(a, b) != naiveCompare(a, b) {
				t.Errorf("Compare(%v, %v) = %d", a, b, lits.Compare(a, b))
			}
		}
	}
}

func TestLongPairs(t *testing.T) {
	all := variables(1, 65536)
	var odd, even []int
	for _, v := range all {
		if v%2 == 1 {
			odd = append(odd, v)
		} else {
			even = append(even, v)
		}
	}
	if got, e := lits.Join(even, odd); !slices.Equal(got, all) || e != api.OK {
		t.Errorf("Join: %d elements, %v", len(got), e)
	}
	if got, e := lits.Join(all, all); !slices.Equal(got, all) || e != api.OK {
		t.Errorf("Join of one list twice: %d elements, %v", len(got), e)
	}
	last := append(variables(1, 65535), -65536)
	if got, e := lits.Resolve(all, last, 65536); !slices.Equal(got, variables(1, 65535)) || e != api.OK {
		t.Errorf("Resolve: %d elements, %v", len(got), e)
	}
	if _, e := lits.Join(all, last); e != api.ErrTaut {
		t.Error("Join:", e)
	}
	if !lits.Sub(even, all) || lits.Sub(all, even) || lits.Sub(all, last) || lits.Strike(all, last) != -65536 || lits.Compare(all, last) != 1 || lits.Compare(last, variables(1, 65535)) != 1 {
		t.Error("Sub, Strike or Compare of long lists")
	}
}
