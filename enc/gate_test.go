package enc_test

import (
	"math"
	"slices"
	"testing"

	"skolem/api"
	"skolem/enc"
)

// P12.1: Gate

// gated holds Gate against the definition, for all ways.
func gated(t *testing.T, g api.Gate) {
	t.Helper()
	for way := -2; way <= 2; way++ {
		got, e := enc.Gate(g, way)
		if want, err := naiveGate(g, way); !sameLists(got, want) || e != err {
			t.Errorf("Gate(%v, %d) = %v, %v, not %v, %v", g, way, got, e, want, err)
		}
	}
}

func TestGate(t *testing.T) {
	for _, c := range []struct {
		g           api.Gate
		plus, minus [][]int
	}{
		// the chapter's examples
		{and(3, 1, -2), clauses(list(1, -3), list(-2, -3)), clauses(list(-1, 2, 3))},
		{xor(5, 1, 1), clauses(list(1, -5), list(-1, -5)), nil},
		{ite(5, 1, 2, 3), clauses(list(-1, 2, -5), list(1, 3, -5)), clauses(list(-1, -2, 5), list(1, -3, 5))},

		{and(3), nil, clauses(list(3))},
		{and(3, 1), clauses(list(1, -3)), clauses(list(-1, 3))},
		{and(3, -1), clauses(list(-1, -3)), clauses(list(1, 3))},
		{and(3, -2, 1), clauses(list(-2, -3), list(1, -3)), clauses(list(-1, 2, 3))},
		{and(1, 3, 2), clauses(list(-1, 3), list(-1, 2)), clauses(list(1, -2, -3))},
		{and(2, 3, 1), clauses(list(-2, 3), list(1, -2)), clauses(list(-1, 2, -3))},
		{and(3, 1, 1), clauses(list(1, -3), list(1, -3)), clauses(list(-1, 3))},
		{and(3, 1, 2, 1), clauses(list(1, -3), list(2, -3), list(1, -3)), clauses(list(-1, -2, 3))},
		{and(3, 1, -1), clauses(list(1, -3), list(-1, -3)), nil},
		{and(4, 1, 3, -1, 2), clauses(list(1, -4), list(3, -4), list(-1, -4), list(2, -4)), nil},
		{and(65536, 65535, -1), clauses(list(65535, -65536), list(-1, -65536)), clauses(list(1, -65535, 65536))},
		{and(1, -65536), clauses(list(-1, -65536)), clauses(list(1, 65536))},

		{or(3), clauses(list(-3)), nil},
		{or(3, 1), clauses(list(1, -3)), clauses(list(-1, 3))},
		{or(3, -1), clauses(list(-1, -3)), clauses(list(1, 3))},
		{or(3, 1, -2), clauses(list(1, -2, -3)), clauses(list(-1, 3), list(2, 3))},
		{or(3, -2, 1), clauses(list(1, -2, -3)), clauses(list(2, 3), list(-1, 3))},
		{or(1, 3, 2), clauses(list(-1, 2, 3)), clauses(list(1, -3), list(1, -2))},
		{or(3, 1, 1), clauses(list(1, -3)), clauses(list(-1, 3), list(-1, 3))},
		{or(3, 2, 1, 2), clauses(list(1, 2, -3)), clauses(list(-2, 3), list(-1, 3), list(-2, 3))},
		{or(3, 1, -1), nil, clauses(list(-1, 3), list(1, 3))},
		{or(4, 1, 3, 2, -3), nil, clauses(list(-1, 4), list(-3, 4), list(-2, 4), list(3, 4))},
		{or(65535, 65536, -1), clauses(list(-1, -65535, 65536)), clauses(list(65535, -65536), list(1, 65535))},

		{xor(5, 1, 2), clauses(list(1, 2, -5), list(-1, -2, -5)), clauses(list(-1, 2, 5), list(1, -2, 5))},
		{xor(5, 2, 1), clauses(list(1, 2, -5), list(-1, -2, -5)), clauses(list(1, -2, 5), list(-1, 2, 5))},
		{xor(5, -1, 2), clauses(list(-1, 2, -5), list(1, -2, -5)), clauses(list(1, 2, 5), list(-1, -2, 5))},
		{xor(5, 1, -2), clauses(list(1, -2, -5), list(-1, 2, -5)), clauses(list(-1, -2, 5), list(1, 2, 5))},
		{xor(5, -1, -2), clauses(list(-1, -2, -5), list(1, 2, -5)), clauses(list(1, -2, 5), list(-1, 2, 5))},
		{xor(1, 3, 2), clauses(list(-1, 2, 3), list(-1, -2, -3)), clauses(list(1, 2, -3), list(1, -2, 3))},
		{xor(5, -1, -1), clauses(list(-1, -5), list(1, -5)), nil},
		{xor(5, 1, -1), nil, clauses(list(-1, 5), list(1, 5))},
		{xor(5, -1, 1), nil, clauses(list(1, 5), list(-1, 5))},

		{ite(5, -1, 2, 3), clauses(list(1, 2, -5), list(-1, 3, -5)), clauses(list(1, -2, 5), list(-1, -3, 5))},
		{ite(5, 1, -2, 3), clauses(list(-1, -2, -5), list(1, 3, -5)), clauses(list(-1, 2, 5), list(1, -3, 5))},
		{ite(5, 1, 2, -3), clauses(list(-1, 2, -5), list(1, -3, -5)), clauses(list(-1, -2, 5), list(1, 3, 5))},
		{ite(1, 4, 3, 2), clauses(list(-1, 3, -4), list(-1, 2, 4)), clauses(list(1, -3, -4), list(1, -2, 4))},
		{ite(5, 1, 1, 2), clauses(list(1, 2, -5)), clauses(list(-1, 5), list(1, -2, 5))},
		{ite(5, 1, -1, 2), clauses(list(-1, -5), list(1, 2, -5)), clauses(list(1, -2, 5))},
		{ite(5, 1, 2, 1), clauses(list(-1, 2, -5), list(1, -5)), clauses(list(-1, -2, 5))},
		{ite(5, 1, 2, -1), clauses(list(-1, 2, -5)), clauses(list(-1, -2, 5), list(1, 5))},
		{ite(5, 1, 2, 2), clauses(list(-1, 2, -5), list(1, 2, -5)), clauses(list(-1, -2, 5), list(1, -2, 5))},
		{ite(5, 1, 2, -2), clauses(list(-1, 2, -5), list(1, -2, -5)), clauses(list(-1, -2, 5), list(1, 2, 5))},
		{ite(5, 1, 1, 1), clauses(list(1, -5)), clauses(list(-1, 5))},
		{ite(5, 1, -1, -1), clauses(list(-1, -5)), clauses(list(1, 5))},
		{ite(5, 1, 1, -1), nil, clauses(list(-1, 5), list(1, 5))},
		{ite(5, 1, -1, 1), clauses(list(-1, -5), list(1, -5)), nil},
		{ite(65536, 65535, 65534, -1), clauses(list(65534, -65535, -65536), list(-1, 65535, -65536)), clauses(list(-65534, -65535, 65536), list(1, 65535, 65536))},
	} {
		for way, want := range map[int][][]int{1: c.plus, -1: c.minus, 0: slices.Concat(c.plus, c.minus)} {
			if got, e := enc.Gate(c.g, way); !sameLists(got, want) || e != api.OK {
				t.Errorf("Gate(%v, %d) = %v, %v, not %v", c.g, way, got, e, want)
			}
		}
	}
}

// TestSmallGates: all gates with up to four literals of two variables, and all others with those of three, and a variable before, between or behind these.
func TestSmallGates(t *testing.T) {
	for _, v := range []int{1, 3, 5, 7} {
		for _, g := range slices.Concat(gatesOver(v, 4, literals(2, 4)), gatesOver(v, 3, literals(2, 4, 6))) {
			gated(t, g)
		}
	}
}

func TestGatesOfAllSorts(t *testing.T) {
	d := dice(1)
	for range 20000 {
		names := d.names(1 + d.below(9))
		g := d.gate(names[0], names[1:])
		gated(t, g)
		gated(t, d.brokenGate(g))
	}
}

func TestGateErrors(t *testing.T) {
	bad := map[string]api.Gate{
		"nothing":              {},
		"no kind":              {Var: 3, In: list(1, 2)},
		"no kind, no literals": {Var: 3},
		"a fifth kind":         {Var: 3, Kind: 5, In: list(1, 2)},
		"the last kind":        {Var: 3, Kind: 255, In: list(1, 2, 4)},
		"xor of none":          xor(3),
		"xor of one":           xor(3, 1),
		"xor of three":         xor(3, 1, 2, 4),
		"xor of one, thrice":   xor(3, 1, 1, 1),
		"ite of none":          ite(3),
		"ite of two":           ite(3, 1, 2),
		"ite of four":          ite(3, 1, 2, 4, 5),
	}
	for name, g := range bad {
		for way := -1; way <= 1; way++ {
			if f, e := enc.Gate(g, way); len(f) > 0 || e != api.ErrArg {
				t.Errorf("%s, way %d: %v, %v", name, way, f, e)
			}
		}
	}
	refused := func(g api.Gate, way int) {
		t.Helper()
		if f, e := enc.Gate(g, way); len(f) > 0 || e != api.ErrArg {
			t.Errorf("Gate(%v, %d): %v, %v", g, way, f, e)
		}
	}
	for way := -1; way <= 1; way++ {
		for _, v := range []int{0, -1, -3, 65537, -65536, math.MinInt, math.MinInt + 1, math.MaxInt} { // a Var that is no variable
			for _, g := range []api.Gate{and(v), or(v), and(v, 1), or(v, 1, 2), xor(v, 1, 2), ite(v, 1, 2, 4)} {
				refused(g, way)
			}
		}
		for _, x := range []int{0, 65537, -65537, 3, -3, math.MinInt, math.MinInt + 1, math.MaxInt, math.MaxInt - 1} { // a literal that is none, or one of Var itself
			for _, g := range []api.Gate{and(3, x), or(3, x), and(3, 1, x), or(3, x, 1), and(3, 1, 1, x), xor(3, x, 1), xor(3, 1, x), xor(3, x, x), ite(3, x, 1, 2), ite(3, 1, x, 2), ite(3, 1, 2, x)} {
				refused(g, way)
			}
		}
	}
	for _, way := range []int{-2, 2, 3, -3, 65536, math.MinInt, math.MaxInt} {
		for _, g := range []api.Gate{and(3), or(3, 1), xor(3, 1, 2), ite(3, 1, 2, 4), xor(3), {}} {
			refused(g, way)
		}
	}
}

// TestLongGates: as many literals as a gate may have, and one more; more than a clause may have variables.
func TestLongGates(t *testing.T) {
	long := func(n int) []int { return slices.Repeat(list(1, 2, 5, 4), n)[:n] }
	plus := func(f [][]int, n int) bool { // the clauses -3, l
		is := len(f) == n
		for i := 0; is && i < n; i++ {
			want, _ := naiveClause(-3, long(4)[i%4])
			is = slices.Equal(f[i], want)
		}
		return is
	}
	for _, n := range []int{65535, 65536, 65537, 199999, 200000} {
		f, e := enc.Gate(and(3, long(n)...), 0)
		if e != api.OK || !plus(f[:len(f)-1], n) || !slices.Equal(f[n], list(-1, -2, 3, -4, -5)) {
			t.Errorf("and of %d: %d clauses, %v", n, len(f), e)
		}
		if f, e = enc.Gate(and(3, long(n)...), 1); e != api.OK || !plus(f, n) {
			t.Errorf("and of %d, 1: %d clauses, %v", n, len(f), e)
		}
		if f, e = enc.Gate(and(3, long(n)...), -1); e != api.OK || !sameLists(f, clauses(list(-1, -2, 3, -4, -5))) {
			t.Errorf("and of %d, -1: %d clauses, %v", n, len(f), e)
		}
		if f, e = enc.Gate(or(3, long(n)...), 1); e != api.OK || !sameLists(f, clauses(list(1, 2, -3, 4, 5))) {
			t.Errorf("or of %d, 1: %d clauses, %v", n, len(f), e)
		}
		if f, e = enc.Gate(or(3, long(n)...), -1); e != api.OK || len(f) != n || !slices.Equal(f[n-1], list(-long(4)[(n-1)%4], 3)) && !slices.Equal(f[n-1], list(3, -long(4)[(n-1)%4])) {
			t.Errorf("or of %d, -1: %d clauses, %v", n, len(f), e)
		}
	}
	for _, n := range []int{200001, 200002, 1000000} {
		for way := -1; way <= 1; way++ {
			for _, kind := range []api.GateKind{api.GateAnd, api.GateOr} {
				if f, e := enc.Gate(api.Gate{Var: 3, Kind: kind, In: long(n)}, way); len(f) > 0 || e != api.ErrArg {
					t.Errorf("kind %d of %d, way %d: %d clauses, %v", kind, n, way, len(f), e)
				}
			}
		}
	}
}

// TestWidestGates: the longest clause there can be.
func TestWidestGates(t *testing.T) {
	in := variables(1, 65535)
	slices.Reverse(in)
	want := append(negated(variables(1, 65535)), 65536)
	if f, e := enc.Gate(and(65536, in...), -1); e != api.OK || !sameLists(f, clauses(want)) {
		t.Errorf("and: %d clauses, %v", len(f), e)
	}
	if f, e := enc.Gate(or(65536, negated(in)...), 1); e != api.OK || len(f) != 1 || !slices.Equal(f[0], append(negated(variables(1, 65535)), -65536)) {
		t.Errorf("or: %d clauses, %v", len(f), e)
	}
	in[40000] = -in[0] // 65535 and its negative
	if f, e := enc.Gate(and(65536, in...), -1); e != api.OK || len(f) != 0 {
		t.Errorf("and: %d clauses, %v", len(f), e)
	}
	if f, e := enc.Gate(or(65536, in...), 0); e != api.OK || len(f) != 65535 {
		t.Errorf("or: %d clauses, %v", len(f), e)
	}
}
