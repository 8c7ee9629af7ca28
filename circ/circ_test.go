package circ_test

import (
	"math"
	"slices"
	"testing"

	"skolem/api"
	"skolem/circ"
)

// P5.1

func TestMay(t *testing.T) {
	p := prefix(some(1), all(2))
	for name, n := range map[string]api.Net{
		"the chapter's example":         example(),
		"one variable":                  net(prefix(some(1)), 1),
		"its negative":                  net(prefix(all(1)), -1),
		"variables that descend":        net(prefix(all(3, 1), some(2), all(65536)), -65536),
		"a gate alone, and":             net(nil, 1, and(1)),
		"a gate alone, or":              net([]api.Block{}, -65536, or(65536)),
		"gates of gates alone":          net(nil, 2, and(7), or(1, 7), xor(9, 7, -1), ite(2, 9, -9, 1)),
		"a gate that is not used":       net(p, 1, and(3)),
		"and, or without literals":      net(p, -3, and(3), or(4)),
		"empty lists of literals":       net(p, 4, and(3, []int{}...), or(4, []int{}...)),
		"and of many":                   net(p, 3, and(3, 1, 1, -1, 2, -2)),
		"xor of a variable with itself": net(p, 3, xor(3, 1, 1)),
		"ite of a variable alone":       net(p, 3, ite(3, 1, -1, 1)),
		"Vars that do not ascend":       net(p, 3, and(9, 1), or(3, -9, 2), xor(5, 3, 9)),
		"the greatest variables":        net(prefix(some(65536)), -65535, and(65535, 65536, -65536)),
		"1024 variables":                net(prefix(some(variables(1, 1024)...)), 1024),
		"1024 variables in blocks":      net(prefix(some(variables(1, 1000)...), all(variables(1001, 1024)...)), 1025, or(1025, -1024)),
		"200000 literals in one":        net(p, 1, and(3, slices.Repeat([]int{1}, 200000)...)),
		"200000 literals":               full(200000),
		"200000, and an empty gate":     net(prefix(some(1)), 1, append(full(200000).Gates, and(60000))...),
		"all variables":                 chain(65535),
	} {
		if !circ.May(n) {
			t.Errorf("%s is not valid", name)
		}
	}
	for name, n := range notNets() {
		if circ.May(n) {
			t.Errorf("%s is valid", name)
		}
	}
}

// TestMayOfOdd: each integer as Var and as literal of a gate, in the prefix, and as Out.
func TestMayOfOdd(t *testing.T) {
	for _, x := range oddInts {
		for _, n := range []api.Net{
			net(prefix(some(1), all(2)), 1, and(x, 2)), net(prefix(some(1, 65536), all(2)), 1, and(3, 2, x)), net(prefix(some(1, 2), all(65536)), 1, xor(3, x, 2)),
			net(prefix(some(1, 2), all(65536)), 1, ite(3, 1, 2, x)), net(prefix(some(3), all(x)), 3), net(prefix(some(65536, 2), all(1)), x), net(nil, x, and(1), and(65536)),
		} {
			if got, want := circ.May(n), naiveMay(n); got != want {
				t.Errorf("May(%v) = %v", n, got)
			}
		}
	}
}

func TestMayOfAllSorts(t *testing.T) {
	dice := dice(70)
	count := map[bool]int{}
	for i := range 40000 {
		n := dice.net(5, 5)
		for range i % 4 {
			n = dice.broken(n)
		}
		got := circ.May(n)
		if got != naiveMay(n) || i%4 == 0 && !got {
			t.Errorf("May(%v) = %v", n, got)
		}
		count[got]++
	}
	if count[true] < 10000 || count[false] < 10000 {
		t.Error(count)
	}
}

func TestSame(t *testing.T) {
	one := example()
	for name, c := range map[string]struct {
		a, b api.Net
		want bool
	}{
		"nothing":                {api.Net{}, api.Net{}, true},
		"the example":            {one, example(), true},
		"empty lists":            {net([]api.Block{}, 1, []api.Gate{}...), net(nil, 1), true},
		"an empty block":         {net(prefix(all()), 1), net(prefix(api.Block{Vars: []int{}}), 1), true},
		"a gate without In":      {net(nil, 1, and(1)), net(nil, 1, and(1, []int{}...)), true},
		"Out":                    {one, net(one.Prefix, -5, one.Gates...), false},
		"a block less":           {one, net(one.Prefix[:2], 5, one.Gates...), false},
		"a block more":           {one, net(append(prefix(one.Prefix...), all(9)), 5, one.Gates...), false},
		"an empty block more":    {one, net(append(prefix(one.Prefix...), all()), 5, one.Gates...), false},
		"no prefix":              {one, net(nil, 5, one.Gates...), false},
		"another quantifier":     {one, net(prefix(some(1), some(2), some(3)), 5, one.Gates...), false},
		"another variable":       {one, net(prefix(some(1), all(2), some(4)), 5, one.Gates...), false},
		"a variable more":        {one, net(prefix(some(1), all(2), some(3, 4)), 5, one.Gates...), false},
		"variables in one block": {net(prefix(some(1, 2)), 1), net(prefix(some(1), some(2)), 1), false},
		"variables that turn":    {net(prefix(some(1, 2)), 1), net(prefix(some(2, 1)), 1), false},
		"a gate less":            {one, net(one.Prefix, 5, one.Gates[:1]...), false},
		"no gates":               {one, net(one.Prefix, 5), false},
		"gates that turn":        {one, net(one.Prefix, 5, one.Gates[1], one.Gates[0]), false},
		"another Var":            {one, net(one.Prefix, 5, one.Gates[0], ite(6, 4, 3, -3)), false},
		"another kind":           {one, net(one.Prefix, 5, or(4, 1, -2), one.Gates[1]), false},
		"another literal":        {one, net(one.Prefix, 5, and(4, 1, 2), one.Gates[1]), false},
		"a literal more":         {one, net(one.Prefix, 5, and(4, 1, -2, -2), one.Gates[1]), false},
		"a literal less":         {one, net(one.Prefix, 5, and(4, 1), one.Gates[1]), false},
		"literals that turn":     {one, net(one.Prefix, 5, and(4, -2, 1), one.Gates[1]), false},
		"not valid, the same":    {net(prefix(all(0)), 7, ite(-1)), net(prefix(all(0)), 7, ite(-1)), true},
		"not valid, others":      {net(prefix(all(0)), 7, ite(-1)), net(prefix(all(0)), 7, ite(-2)), false},
	} {
		if got := circ.Same(c.a, c.b); got != c.want || circ.Same(c.b, c.a) != c.want {
			t.Errorf("Same of %s: %v", name, got)
		}
	}
}

func TestSameOfAllSorts(t *testing.T) {
	dice := dice(71)
	count := map[bool]int{}
	for range 20000 {
		a := dice.net(4, 4)
		b := dice.broken(a)
		got := circ.Same(a, b)
		if got != sameNets(a, b) || !circ.Same(a, a) {
			t.Errorf("Same(%v, %v) = %v", a, b, got)
		}
		count[got]++
	}
	if count[true] < 1000 || count[false] < 10000 {
		t.Error(count)
	}
}

func TestEval(t *testing.T) {
	first := net(prefix(all(1, 2)), -3, and(3, 1, -2))
	p := prefix(all(1, 2), some(3))
	for name, c := range map[string]struct {
		n    api.Net
		a    []int
		want bool
		l    []bool
	}{
		"the section's example":    {first, []int{1}, false, []bool{true}},
		"the chapter's, 1 3":       {example(), []int{1, 3}, true, []bool{true, true}},
		"the chapter's, 1 2 3":     {example(), []int{1, 2, 3}, false, []bool{false, false}},
		"nothing is said":          {first, nil, true, []bool{false}},
		"negatives say the same":   {first, []int{-1, -2}, true, []bool{false}},
		"others do not matter":     {first, []int{1, -7, 65536}, false, []bool{true}},
		"nor those of gates":       {first, []int{1, -3}, false, []bool{true}},
		"nor true ones of gates":   {first, []int{2, 3}, true, []bool{false}},
		"a variable alone":         {net(p, 2), []int{2}, true, nil},
		"its negative":             {net(p, -2), []int{2}, false, nil},
		"one that is not said":     {net(p, -2), []int{1, 3}, true, nil},
		"the greatest variable":    {net(prefix(all(65536)), 65536), []int{65536}, true, nil},
		"and, or of nothing":       {net(nil, -2, and(1), or(2)), []int{1, 2}, true, []bool{true, false}},
		"of one literal":           {net(p, 5, and(4, -1), or(5, -1)), nil, true, []bool{true, true}},
		"of one that is false":     {net(p, -5, and(4, 1), or(5, 1)), nil, true, []bool{false, false}},
		"of a literal and itself":  {net(p, 5, and(4, 1, 1), or(5, 1, 1)), []int{1}, true, []bool{true, true}},
		"of it and its negative":   {net(p, 4, and(4, 1, -1), or(5, 1, -1)), []int{1}, false, []bool{false, true}},
		"the last literal decides": {net(p, 4, and(4, 1, 2, -3), or(5, -1, -2, 3)), []int{1, 2, 3}, false, []bool{false, true}},
		"xor of equal ones":        {net(p, 4, xor(4, 1, 1), xor(5, 1, -1), xor(6, 1, 2), xor(7, -1, 2)), []int{1, 2}, false, []bool{false, true, false, true}},
		"ite":                      {net(p, 4, ite(4, 1, 2, 3), ite(5, -1, 2, 3), ite(6, 1, -2, 3), ite(7, -1, 2, -3)), []int{1, 2}, true, []bool{true, false, false, true}},
	} {
		if got, e := circ.Eval(c.n, c.a); got != c.want || e != api.OK {
			t.Errorf("Eval of %s: %v, %v", name, got, e)
		}
		if l, e := circ.Values(c.n, c.a); !slices.Equal(l, c.l) || e != api.OK {
			t.Errorf("Values of %s: %v, %v", name, l, e)
		}
	}
}

func TestEvalOfWrong(t *testing.T) {
	refused := func(name string, n api.Net, a []int) {
		if got, e := circ.Eval(n, a); got || e != api.ErrArg {
			t.Errorf("Eval of %s by %v: %v, %v", name, a, got, e)
		}
		if l, e := circ.Values(n, a); l != nil || e != api.ErrArg {
			t.Errorf("Values of %s by %v: %v, %v", name, a, l, e)
		}
	}
	for name, n := range notNets() {
		refused(name, n, nil)
	}
	for _, a := range loose {
		refused("a net", net(prefix(some(1, 2, 3)), 4, or(4)), a)
		refused("true", net(nil, 4, and(4)), a)
		refused("no net", api.Net{}, a)
	}
}

func TestEvalOfAllSorts(t *testing.T) {
	dice := dice(72)
	count := map[bool]int{}
	for range 3000 {
		n := dice.net(5, 7)
		some := [][]int{nil, dice.assignment(sorted(namesOf(n))), dice.assignment(variables(1, 12)), dice.assignment(variables(65530, 65536))}
		for _, a := range append(assignmentsOf(sorted(numbersOf(n.Prefix))), some...) {
			got, e := circ.Eval(n, a)
			if got != naiveValue(n, a, n.Out) || e != api.OK {
				t.Fatalf("Eval(%v, %v) = %v, %v", n, a, got, e)
			}
			if l, e := circ.Values(n, a); !slices.Equal(l, naiveValues(n, a)) || e != api.OK {
				t.Fatalf("Values(%v, %v) = %v, %v", n, a, l, e)
			}
			count[got]++
		}
	}
	if count[true] < 5000 || count[false] < 5000 {
		t.Error(count)
	}
}

func TestSupport(t *testing.T) {
	first := net(prefix(all(1, 2)), -3, and(3, 1, -2))
	deep := net(prefix(some(9, 4), all(2), some(7)), 1, or(3), and(8, 9, 2, 9), xor(5, -8, -7), and(1, 5, 3, 8))
	for name, c := range map[string]struct {
		n    api.Net
		lit  int
		want []int
		e    api.Errno
	}{
		"the section's example": {first, -3, []int{1, 2}, api.OK},
		"the positive literal":  {first, 3, []int{1, 2}, api.OK},
		"a variable":            {first, 2, []int{2}, api.OK},
		"its negative":          {first, -2, []int{2}, api.OK},
		"a constant gate":       {deep, 3, nil, api.OK},
		"a gate of variables":   {deep, -8, []int{2, 9}, api.OK},
		"a gate of gates":       {deep, 5, []int{2, 7, 9}, api.OK},
		"the last gate":         {deep, 1, []int{2, 7, 9}, api.OK},
		"one that none uses":    {deep, -4, []int{4}, api.OK},
		"it counts in spite":    {net(prefix(some(1)), 2, and(2, 1, -1)), 2, []int{1}, api.OK},
		"a gate, and another":   {net(prefix(some(1, 2)), 4, and(3, 1), and(4, 2)), 3, []int{1}, api.OK},
		"nowhere":               {deep, 6, nil, api.ErrNone},
		"a negative nowhere":    {deep, -6, nil, api.ErrNone},
		"0":                     {deep, 0, nil, api.ErrNone},
		"65536":                 {deep, 65536, nil, api.ErrNone},
		"65537":                 {deep, 65537, nil, api.ErrNone},
		"the least int":         {deep, math.MinInt, nil, api.ErrNone},
		"the greatest int":      {deep, math.MaxInt, nil, api.ErrNone},
		"no net, and nowhere":   {api.Net{}, 7, nil, api.ErrArg},
	} {
		if got, e := circ.Support(c.n, c.lit); !slices.Equal(got, c.want) || e != c.e {
			t.Errorf("Support of %s: %v, %v", name, got, e)
		}
	}
	for name, n := range notNets() {
		for _, lit := range []int{1, -2, 3, 0} {
			if got, e := circ.Support(n, lit); got != nil || e != api.ErrArg {
				t.Errorf("Support of %s, %d: %v, %v", name, lit, got, e)
			}
		}
	}
}

func TestSupportOfAllSorts(t *testing.T) {
	dice := dice(73)
	for range 5000 {
		n := dice.net(6, 7)
		for _, v := range namesOf(n) {
			for _, lit := range []int{v, -v} {
				if got, e := circ.Support(n, lit); !slices.Equal(got, naiveSupport(n, lit)) || e != api.OK {
					t.Errorf("Support(%v, %d) = %v, %v", n, lit, got, e)
				}
			}
		}
	}
}

// TestLarge: nets at the limits are gone through without recursion, and soon.
func TestLarge(t *testing.T) {
	n := chain(65535)
	if got, e := circ.Eval(n, []int{1}); got || e != api.OK {
		t.Errorf("Eval: %v, %v", got, e)
	}
	if l, e := circ.Values(n, []int{1}); len(l) != 65535 || !l[0] || l[1] || l[2] || !l[3] || e != api.OK {
		t.Errorf("Values: %d, %v", len(l), e)
	}
	if got, e := circ.Support(n, 65536); !slices.Equal(got, []int{1}) || e != api.OK {
		t.Errorf("Support: %v, %v", got, e)
	}
	n = full(200000)
	if l, e := circ.Values(n, []int{1}); len(l) != 200 || !l[199] || e != api.OK {
		t.Errorf("Values: %d, %v", len(l), e)
	}
}
