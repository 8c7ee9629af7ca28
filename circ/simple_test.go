package circ_test

import (
	"slices"
	"testing"

	"skolem/api"
	"skolem/circ"
)

// P5.3: Simple and Cofactor

func TestSimple(t *testing.T) {
	p := prefix(some(1), all(2))
	for name, c := range map[string]struct{ n, want api.Net }{
		"the section's example":            {net(p, 4, and(3, 1, 1), xor(4, 3, 2)), net(p, 4, xor(4, 1, 2))},
		"the chapter's, false":             {net(prefix(some(1)), -7, and(7)), net(prefix(some(1)), -2, and(2))},
		"true":                             {net(prefix(some(1)), 7, and(7)), net(prefix(some(1)), 2, and(2))},
		"an or of nothing":                 {net(prefix(some(1)), 7, or(7)), net(prefix(some(1)), -2, and(2))},
		"its negative":                     {net(prefix(some(1)), -7, or(7)), net(prefix(some(1)), 2, and(2))},
		"the chapter's net":                {example(), example()},
		"a variable":                       {net(p, 2), net(p, 2)},
		"its negative literal":             {net(p, -1), net(p, -1)},
		"gates that are not used":          {net(p, 2, and(3, 1, 2), or(4, 3, -1)), net(p, 2)},
		"one that is used, and another":    {net(p, -4, and(3, 1, 2), or(4, 1, -2), xor(5, 4, 3)), net(p, -4, or(4, 1, -2))},
		"one that no one needs any more":   {net(p, 5, and(3, 1, 2), or(4, 3, -3, 1), ite(5, 4, -1, 3)), net(p, -1)},
		"used behind a rule only":          {net(p, 5, and(3, 1, 2), or(4), ite(5, 4, 1, 3)), net(p, 3, and(3, 1, 2))},
		"the negative of a gate's":         {net(p, -4, xor(3, 1, 2), and(4, -3)), net(p, 3, xor(3, 1, 2))},
		"negatives of negatives":           {net(p, 6, and(3, -1), or(4, -3, -3), xor(5, 4, 2), and(6, -5)), net(p, -5, xor(5, 1, 2))},
		"constants go on":                  {net(p, 6, and(3), or(4, 1, 3), xor(5, 4, 2), ite(6, 5, 1, 4)), net(p, 6, or(6, 2, 1))},
		"equal by what they mean":          {net(p, 5, and(3, 1), or(4, 1), xor(5, 3, 4)), net(p, -3, and(3))},
		"opposite by what they mean":       {net(p, 5, and(3, 1), or(4, -1), xor(5, 3, 4)), net(p, 3, and(3))},
		"twice by what they mean":          {net(p, 5, and(3, 1), or(4, 1), and(5, 2, 3, -2, 4)), net(p, -3, and(3))},
		"equal gates are two":              {net(p, 5, and(3, 1, 2), and(4, 1, 2), xor(5, 3, 4)), net(p, 5, and(3, 1, 2), and(4, 1, 2), xor(5, 3, 4))},
		"the least variable is a gate's":   {net(prefix(some(1), all(3)), 4, or(2), and(4, 2, 1)), net(prefix(some(1), all(3)), -2, and(2))},
		"the least one, between":           {net(prefix(some(3, 1, 2), all(5)), 65536, and(65536)), net(prefix(some(3, 1, 2), all(5)), 4, and(4))},
		"the least one, behind":            {net(prefix(some(variables(1, 1024)...)), 65536, or(65536, 1, -1)), net(prefix(some(variables(1, 1024)...)), 1025, and(1025))},
		"no prefix":                        {net(nil, -5, and(4), xor(5, 4, 4)), net(nil, 1, and(1))},
		"literals in their order":          {net(p, 3, and(3, 2, 1, 2, 1)), net(p, 3, and(3, 2, 1))},
		"gates in their order":             {net(p, 3, or(9, 1, 2), and(5, 2, 1), xor(3, 5, 9)), net(p, 3, or(9, 1, 2), and(5, 2, 1), xor(3, 5, 9))},
		"the prefix stays as it is":        {net(prefix(all(9, 3), some(5), all(4)), 4), net(prefix(all(9, 3), some(5), all(4)), 4)},
		"Out means a gate of another kind": {net(p, 4, and(3), ite(4, 1, 2, -3)), net(p, 4, and(4, 1, 2))},
	} {
		if got, e := circ.Simple(c.n); !sameNets(got, c.want) || e != api.OK {
			t.Errorf("Simple of %s: %v, %v", name, got, e)
		}
		if got, e := circ.Cofactor(c.n, nil); !sameNets(got, c.want) || e != api.OK {
			t.Errorf("Cofactor by nothing of %s: %v, %v", name, got, e)
		}
	}
	for name, n := range notNets() {
		if got, e := circ.Simple(n); !sameNets(got, api.Net{}) || e != api.ErrArg {
			t.Errorf("Simple of %s: %v, %v", name, got, e)
		}
	}
}

// TestRules: one gate of the variables 1 to 3, T (true) and F (false), and what it becomes.
func TestRules(t *testing.T) {
	const T, F = 9, -9
	p := prefix(some(1, 2, 3))
	literal := func(lit int) api.Net { return net(p, lit) }
	isTrue, isFalse := net(p, 4, and(4)), net(p, -4, and(4))
	stays := func(g api.Gate) api.Net { return net(p, 10, g) }
	for i, c := range []struct {
		g    api.Gate
		want api.Net
	}{
		{and(10), isTrue},
		{and(10, T), isTrue},
		{and(10, T, T), isTrue},
		{and(10, F), isFalse},
		{and(10, 1, F, 2), isFalse},
		{and(10, T, F), isFalse},
		{and(10, 1, -1), isFalse},
		{and(10, -2, 1, 3, 2), isFalse},
		{and(10, 1), literal(1)},
		{and(10, -2, T, -2), literal(-2)},
		{and(10, 3, 3, 3), literal(3)},
		{and(10, 2, T, -1), stays(and(10, 2, -1))},
		{and(10, 3, 1, 3, T, 2, 1), stays(and(10, 3, 1, 2))},
		{and(10, -3, -3, -1), stays(and(10, -3, -1))},
		{or(10), isFalse},
		{or(10, F), isFalse},
		{or(10, F, F), isFalse},
		{or(10, T), isTrue},
		{or(10, 1, T, 2), isTrue},
		{or(10, F, T), isTrue},
		{or(10, 1, -1), isTrue},
		{or(10, -2, 1, 3, 2), isTrue},
		{or(10, 1), literal(1)},
		{or(10, -2, F, -2), literal(-2)},
		{or(10, 3, 3, 3), literal(3)},
		{or(10, 2, F, -1), stays(or(10, 2, -1))},
		{or(10, 3, 1, 3, F, 2, 1), stays(or(10, 3, 1, 2))},
		{or(10, -3, -3, -1), stays(or(10, -3, -1))},
		{xor(10, F, -2), literal(-2)},
		{xor(10, T, 2), literal(-2)},
		{xor(10, -1, F), literal(-1)},
		{xor(10, -1, T), literal(1)},
		{xor(10, T, T), isFalse},
		{xor(10, F, T), isTrue},
		{xor(10, T, F), isTrue},
		{xor(10, F, F), isFalse},
		{xor(10, -1, -1), isFalse},
		{xor(10, 2, -2), isTrue},
		{xor(10, -2, 2), isTrue},
		{xor(10, -2, -1), stays(xor(10, -2, -1))},
		{xor(10, 1, 2), stays(xor(10, 1, 2))},
		{ite(10, T, 1, 2), literal(1)},
		{ite(10, T, F, 2), isFalse},
		{ite(10, F, 1, -2), literal(-2)},
		{ite(10, F, 1, T), isTrue},
		{ite(10, 1, -2, -2), literal(-2)},
		{ite(10, 1, 1, 1), literal(1)},
		{ite(10, 1, T, T), isTrue},
		{ite(10, 1, F, F), isFalse},
		{ite(10, 1, T, 2), stays(or(10, 1, 2))},
		{ite(10, 1, T, 1), literal(1)},
		{ite(10, 1, T, -1), isTrue},
		{ite(10, -1, T, F), literal(-1)},
		{ite(10, 1, F, 2), stays(and(10, -1, 2))},
		{ite(10, 1, F, -1), literal(-1)},
		{ite(10, 1, F, 1), isFalse},
		{ite(10, 1, F, T), literal(-1)},
		{ite(10, 1, 2, T), stays(or(10, -1, 2))},
		{ite(10, 1, -1, T), literal(-1)},
		{ite(10, 1, 1, T), isTrue},
		{ite(10, 1, 2, F), stays(and(10, 1, 2))},
		{ite(10, 1, 1, F), literal(1)},
		{ite(10, 1, -1, F), isFalse},
		{ite(10, 1, 2, 3), stays(ite(10, 1, 2, 3))},
		{ite(10, -1, 2, -2), stays(ite(10, -1, 2, -2))},
		{ite(10, 1, 1, 2), stays(ite(10, 1, 1, 2))},
		{ite(10, 1, 2, -1), stays(ite(10, 1, 2, -1))},
		{ite(10, 1, -1, 1), stays(ite(10, 1, -1, 1))},
	} {
		n := net(prefix(some(1, 2, 3, 9)), 10, c.g)
		if got, e := circ.Cofactor(n, []int{9}); !sameNets(got, c.want) || e != api.OK {
			t.Errorf("rule %d, %v: %v, %v", i, c.g, got, e)
		}
		n.Out = -10
		opposite := c.want
		opposite.Out *= -1
		if got, e := circ.Cofactor(n, []int{9}); !sameNets(got, opposite) || e != api.OK {
			t.Errorf("the negative of rule %d, %v: %v, %v", i, c.g, got, e)
		}
	}
}

// TestAllGates: one gate of each kind with all lists of literals of two variables, true and false.
func TestAllGates(t *testing.T) {
	p := prefix(some(1, 2), all(9))
	for kind := api.GateAnd; kind <= api.GateIte; kind++ {
		for k := range 5 {
			if kind == api.GateXor && k != 2 || kind == api.GateIte && k != 3 {
				continue
			}
			for _, in := range tuples(k, []int{1, -1, 2, -2, 9, -9}) {
				n := net(p, 5, api.Gate{Var: 5, Kind: kind, In: in})
				if got, e := circ.Cofactor(n, []int{9}); !sameNets(got, naiveSimplified(n, []int{9})) || e != api.OK {
					t.Errorf("Cofactor(%v) = %v, %v", n, got, e)
				}
				if got, e := circ.Simple(n); !sameNets(got, naiveSimplified(n, nil)) || e != api.OK {
					t.Errorf("Simple(%v) = %v, %v", n, got, e)
				}
			}
		}
	}
}

func TestCofactor(t *testing.T) {
	p := prefix(some(1), all(2), some(3), all(4), some(5))
	for name, c := range map[string]struct {
		n    api.Net
		a    []int
		want api.Net
	}{
		"the chapter's by 2":        {example(), []int{2}, net(prefix(some(1, 3)), -3)},
		"the chapter's by -2":       {example(), []int{-2}, net(prefix(some(1, 3)), 5, ite(5, 1, 3, -3))},
		"the chapter's by -2 3":     {example(), []int{-2, 3}, net(prefix(some(1)), 1)},
		"by all of them":            {example(), []int{1, -2, 3}, net(nil, 1, and(1))},
		"by all, false":             {example(), []int{-1, -2, 3}, net(nil, -1, and(1))},
		"the only variable, true":   {net(prefix(all(7)), 7), []int{7}, net(nil, 1, and(1))},
		"the only variable, false":  {net(prefix(all(7)), 7), []int{-7}, net(nil, -1, and(1))},
		"a negative Out":            {net(prefix(all(7)), -7), []int{-7}, net(nil, 1, and(1))},
		"the least is a fixed one":  {net(prefix(all(2, 1)), 1), []int{1}, net(prefix(all(2)), 1, and(1))},
		"the least is a gate's":     {net(prefix(all(2, 5)), 1, or(1, 2, 5)), []int{5}, net(prefix(all(2)), 1, and(1))},
		"the least, 3":              {net(prefix(all(2, 4), some(1)), -4), []int{4}, net(prefix(all(2), some(1)), -3, and(3))},
		"a block less":              {net(p, 1), []int{-5}, net(p[:4], 1)},
		"the first block less":      {net(p, -3), []int{1}, net(p[1:], -3)},
		"neighbours":                {net(p, 1), []int{3}, net(prefix(some(1), all(2, 4), some(5)), 1)},
		"neighbours twice":          {net(p, 1), []int{2, 4}, net(prefix(some(1, 3, 5)), 1)},
		"neighbours over three":     {net(p, 1), []int{2, 3, -4}, net(prefix(some(1, 5)), 1)},
		"none is left between":      {net(p, 5), []int{1, 2, 3, 4}, net(prefix(some(5)), 5)},
		"a part of a block":         {net(prefix(some(8, 1, 6), all(3), some(7, 2)), 7), []int{1, 3}, net(prefix(some(8, 6, 7, 2)), 7)},
		"one that does not occur":   {net(p, 6, and(6, 1, 2)), []int{-3}, net(prefix(some(1), all(2, 4), some(5)), 6, and(6, 1, 2))},
		"several kinds":             {net(p, 9, and(6, 1, 3), xor(7, 2, 3), or(8, 6, -3), ite(9, 4, 7, 8)), []int{3}, net(prefix(some(1), all(2, 4), some(5)), 9, ite(9, 4, -2, 1))},
		"several kinds, by -3":      {net(p, 9, and(6, 1, 3), xor(7, 2, 3), or(8, 6, -3), ite(9, 4, 7, 8)), []int{-3}, net(prefix(some(1), all(2, 4), some(5)), 9, or(9, -4, 2))},
		"an ite that is and then 4": {net(prefix(some(1, 2, 3)), 5, ite(4, 1, 2, 3), xor(5, 4, 2)), []int{-3}, net(prefix(some(1, 2)), 5, and(4, 1, 2), xor(5, 4, 2))},
	} {
		if got, e := circ.Cofactor(c.n, c.a); !sameNets(got, c.want) || e != api.OK {
			t.Errorf("Cofactor of %s: %v, %v", name, got, e)
		}
	}
}

func TestCofactorOfWrong(t *testing.T) {
	n := example()
	for _, c := range []struct {
		n api.Net
		a []int
		e api.Errno
	}{
		{n, []int{4}, api.ErrNone},
		{n, []int{-5}, api.ErrNone},
		{n, []int{6}, api.ErrNone},
		{n, []int{1, 2, 3, -65536}, api.ErrNone},
		{n, []int{1, 4}, api.ErrNone},
		{net(nil, 1, and(1)), []int{1}, api.ErrNone},
		{n, []int{65537}, api.ErrArg},
		{n, []int{6, 5}, api.ErrArg},
		{api.Net{}, []int{4}, api.ErrArg},
	} {
		if got, e := circ.Cofactor(c.n, c.a); !sameNets(got, api.Net{}) || e != c.e {
			t.Errorf("Cofactor(%v, %v) = %v, %v", c.n, c.a, got, e)
		}
	}
	for _, a := range loose {
		if got, e := circ.Cofactor(n, a); !sameNets(got, api.Net{}) || e != api.ErrArg {
			t.Errorf("Cofactor by %v: %v, %v", a, got, e)
		}
	}
	for name, n := range notNets() {
		for _, a := range [][]int{nil, {1}, {7}} {
			if got, e := circ.Cofactor(n, a); !sameNets(got, api.Net{}) || e != api.ErrArg {
				t.Errorf("Cofactor of %s by %v: %v, %v", name, a, got, e)
			}
		}
	}
}

func TestSimpleOfAllSorts(t *testing.T) {
	dice := dice(75)
	for range 30000 {
		n := dice.net(5, 8)
		if got, e := circ.Simple(n); !sameNets(got, naiveSimplified(n, nil)) || e != api.OK {
			t.Errorf("Simple(%v) = %v, %v", n, got, e)
		}
		a := dice.assignment(sorted(numbersOf(n.Prefix)))
		if got, e := circ.Cofactor(n, a); !sameNets(got, naiveSimplified(n, a)) || e != api.OK {
			t.Errorf("Cofactor(%v, %v) = %v, %v", n, a, got, e)
		}
	}
}

// TestSimpleOfLarge: nets at the limits are simplified soon.
func TestSimpleOfLarge(t *testing.T) {
	n := net(prefix(some(1, 2)), 65536)
	for v := 3; v <= 65536; v++ {
		n.Gates = append(n.Gates, xor(v, v-1, v-2))
	}
	if got, e := circ.Simple(n); !sameNets(got, n) || e != api.OK {
		t.Errorf("%d gates, %v", len(got.Gates), e)
	}
	if got, e := circ.Cofactor(n, []int{1, -2}); !sameNets(got, net(nil, 1, and(1))) || e != api.OK {
		t.Errorf("%v, %v", got, e)
	}
	n.Out = 65535 // the gates become -2, true, 2, -2, ..
	if got, e := circ.Cofactor(n, []int{1}); !sameNets(got, net(prefix(some(2)), -2)) || e != api.OK {
		t.Errorf("%d gates, %v", len(got.Gates), e)
	}
	wide := net(prefix(some(variables(1, 1024)...)), 2000, and(2000, slices.Repeat(variables(1, 1000), 200)...))
	if got, e := circ.Simple(wide); !sameNets(got, net(wide.Prefix, 2000, and(2000, variables(1, 1000)...))) || e != api.OK {
		t.Errorf("%d gates, %v", len(got.Gates), e)
	}
}
