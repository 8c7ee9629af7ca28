package asg_test

import (
	"math"
	"slices"
	"testing"

	"skolem/api"
	"skolem/asg"
)

// P2.3

// looseVars are lists that are not variables, strictly ascending and at most 64.
func looseVars() [][]int {
	return append(slices.Clone(loose), []int{-1}, []int{-1, 2}, []int{1, -2}, []int{-65536}, variables(1, 65), variables(1, 70000), append(variables(1, 63), 63), append(variables(1, 63), -64), make([]int, 64))
}

func TestPoint(t *testing.T) {
	all := variables(1, 64)
	for _, c := range []struct {
		vars []int
		n    uint64
		want []int
		e    api.Errno
	}{
		{[]int{3, 7}, 1, []int{3, -7}, api.OK}, {[]int{3, 7}, 2, []int{-3, 7}, api.OK}, {[]int{1, 2, 3}, 6, []int{-1, 2, 3}, api.OK}, {[]int{1, 2, 3}, 8, nil, api.ErrRange},
		{nil, 0, nil, api.OK}, {[]int{}, 0, nil, api.OK}, {nil, 1, nil, api.ErrRange}, {nil, math.MaxUint64, nil, api.ErrRange},
		{[]int{65536}, 0, []int{-65536}, api.OK}, {[]int{65536}, 1, []int{65536}, api.OK}, {[]int{65536}, 2, nil, api.ErrRange},
		{all[:63], 1<<63 - 1, all[:63], api.OK}, {all[:63], 1 << 63, nil, api.ErrRange}, {all[:63], math.MaxUint64, nil, api.ErrRange},
		{all[:62], 1<<62 - 1, all[:62], api.OK}, {all[:62], 1 << 62, nil, api.ErrRange},
		{all, 0, negated(all), api.OK}, {all, math.MaxUint64, all, api.OK}, {all, 1 << 63, append(negated(all[:63]), 64), api.OK}, {all, 1<<63 - 1, append(variables(1, 63), -64), api.OK}, {all[:63], 1 << 62, append(negated(all[:62]), 63), api.OK},
	} {
		got, e := asg.Point(c.vars, c.n)
		if !slices.Equal(got, c.want) || e != c.e {
			t.Errorf("Point(%v, %d) = %v, %v", c.vars, c.n, got, e)
		}
	}
	for _, vars := range looseVars() {
		for _, n := range []uint64{0, 1, 1 << 40, math.MaxUint64} { // ErrArg comes before ErrRange
			if got, e := asg.Point(vars, n); len(got) != 0 || e != api.ErrArg {
				t.Errorf("Point(%v.., %d) = %v, %v", vars[:min(3, len(vars))], n, got, e)
			}
		}
	}
}

func TestPointsAround2ToTheK(t *testing.T) {
	for k := range 65 {
		vars := variables(100, 99+k)
		for _, middle := range []uint64{0, 1 << 31, 1 << 32, 1 << k, 1 << (k / 2), 0xAAAAAAAAAAAAAAAA >> (64 - k)} {
			for _, n := range []uint64{middle - 2, middle - 1, middle, middle + 1} {
				got, e := asg.Point(vars, n)
				want, f := naivePoint(vars, n)
				if !slices.Equal(got, want) || e != f {
					t.Errorf("Point of %d variables and %d: %v, %v, not %v, %v", k, n, got, e, want, f)
				}
			}
		}
	}
}

func TestNumber(t *testing.T) {
	all := variables(1, 64)
	for _, c := range []struct {
		vars, a []int
		want    uint64
		e       api.Errno
	}{
		{[]int{1, 2}, []int{-1, 2}, 2, api.OK}, {[]int{1, 2}, []int{1}, 0, api.ErrNone}, {[]int{1, 2}, []int{2}, 0, api.ErrNone}, {[]int{1, 2}, nil, 0, api.ErrNone},
		{nil, nil, 0, api.OK}, {nil, []int{1}, 0, api.ErrNone}, {nil, []int{-1}, 0, api.ErrNone}, {[]int{1}, []int{1, 2}, 0, api.ErrNone}, {[]int{1}, []int{2}, 0, api.ErrNone}, {[]int{1, 3}, []int{1, 2}, 0, api.ErrNone}, {[]int{1, 3}, []int{2, 3}, 0, api.ErrNone},
		{[]int{65536}, []int{65536}, 1, api.OK}, {[]int{65536}, []int{-65536}, 0, api.OK},
		{all, all, math.MaxUint64, api.OK}, {all, negated(all), 0, api.OK}, {all, append(negated(all[:63]), 64), 1 << 63, api.OK}, {all, append(variables(1, 63), -64), 1<<63 - 1, api.OK}, {all[:63], all[:63], 1<<63 - 1, api.OK},
		{all[:63], all, 0, api.ErrNone}, {all, all[:63], 0, api.ErrNone}, {all, variables(1, 65), 0, api.ErrNone}, {all, variables(1, 65536), 0, api.ErrNone}, {all, variables(2, 65), 0, api.ErrNone},
	} {
		if got, e := asg.Number(c.vars, c.a); got != c.want || e != c.e {
			t.Errorf("Number(%v, %d literals) = %d, %v", c.vars, len(c.a), got, e)
		}
	}
	lists := slices.Concat(normalLists(1, 2, 3), loose)
	for _, vars := range lists {
		for _, a := range lists {
			got, e := asg.Number(vars, a)
			if want, f := naiveNumber(vars, a); got != want || e != f {
				t.Errorf("Number(%v, %v) = %d, %v, not %d, %v", vars, a, got, e, want, f)
			}
		}
	}
	for _, vars := range looseVars() { // ErrArg comes before ErrNone
		for _, a := range [][]int{nil, {1}, {2, 1}, vars} {
			if got, e := asg.Number(vars, a); got != 0 || e != api.ErrArg {
				t.Errorf("Number(%v.., %v..) = %d, %v", vars[:min(3, len(vars))], a[:min(3, len(a))], got, e)
			}
		}
	}
	for _, a := range loose {
		for _, vars := range [][]int{nil, {1}, {1, 2}, {65536}} {
			if got, e := asg.Number(vars, a); got != 0 || e != api.ErrArg {
				t.Errorf("Number(%v, %v) = %d, %v", vars, a, got, e)
			}
		}
	}
}
