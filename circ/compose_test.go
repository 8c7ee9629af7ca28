package circ_test

import (
	"math"
	"slices"
	"testing"

	"skolem/api"
	"skolem/circ"
)

// P5.3: Compose

func TestCompose(t *testing.T) {
	p := prefix(some(1), all(2), some(3))
	rest := prefix(some(1), all(2))
	for name, c := range map[string]struct {
		n    api.Net
		v    int
		m    api.Net
		want api.Net
	}{
		"the chapter's example":       {example(), 3, net(prefix(all(2)), -9, or(9, 2)), net(rest, 5, or(6, 2), and(4, 1, -2), ite(5, 4, -6, 6))},
		"a literal in its place":      {example(), 3, net(prefix(all(2)), 2), net(rest, 5, and(4, 1, -2), ite(5, 4, 2, -2))},
		"a negative one":              {example(), 3, net(prefix(some(1)), -1), net(rest, 5, and(4, 1, -2), ite(5, 4, -1, 1))},
		"neighbours":                  {example(), 2, net(prefix(all(3)), 3), net(prefix(some(1, 3)), 5, and(4, 1, -3), ite(5, 4, 3, -3))},
		"neighbours, first after":     {net(prefix(all(5), some(1), all(2, 4)), 1), 1, net(prefix(some(4)), -4), net(prefix(all(5, 2, 4)), -4)},
		"a part of a block":           {net(prefix(all(5, 1, 4)), 6, and(6, 1, 5)), 1, net(prefix(some(4), all(5)), -4), net(prefix(all(5, 4)), 6, and(6, -4, 5))},
		"Out is the variable":         {net(p, 3), 3, net(prefix(all(2)), -2), net(rest, -2)},
		"Out is its negative":         {net(p, -3), 3, net(prefix(all(2)), 5, or(5, 2, -2)), net(rest, -4, or(4, 2, -2))},
		"it does not occur":           {net(p, 4, and(4, 1)), 3, net(prefix(all(2)), 5, or(5, 2), and(6, 5)), net(rest, 4, or(5, 2), and(6, 5), and(4, 1))},
		"the same Vars":               {net(p, 5, and(4, 3), or(5, 4, -3)), 3, net(prefix(some(1)), 5, xor(4, 1, 1), or(5, -4)), net(rest, 5, xor(6, 1, 1), or(7, -6), and(4, 7), or(5, 4, -7))},
		"Vars of n's prefix":          {net(p, 4, and(4, 3, 1)), 3, net(prefix(all(2)), -1, and(3, 2), or(1, -3, 2)), net(rest, 4, and(5, 2), or(6, -5, 2), and(4, -6, 1))},
		"Vars that do not ascend":     {net(p, 9, and(9, 3), or(4, 9)), 3, net(nil, 8, and(50), or(8, -50), xor(7, 8, 50)), net(rest, 9, and(5), or(6, -5), xor(7, 6, 5), and(9, 6), or(4, 9))},
		"Vars between others":         {net(prefix(some(2, 4), all(6)), 8, or(8, 4, 6)), 6, net(nil, 30, and(10), and(20), and(30), and(40)), net(prefix(some(2, 4)), 8, and(1), and(3), and(5), and(7), or(8, 4, 5))},
		"it occurs twice":             {net(p, 4, and(4, 3, -3, 3)), 3, net(prefix(some(1)), -1), net(rest, 4, and(4, -1, 1, -1))},
		"nothing is simplified":       {net(p, 5, and(4), or(5, 4, 3)), 3, net(prefix(some(1)), 2, or(2), and(3, 1, 1)), net(rest, 5, or(6), and(7, 1, 1), and(4), or(5, 4, 6))},
		"the only variable":           {net(prefix(all(1)), -1), 1, net(nil, -7, and(7)), net(nil, 2, and(2))},
		"the only one, and gates":     {net(prefix(all(1)), 2, or(2, 1, -1)), 1, net(nil, 1, and(1)), net(nil, 2, and(3), or(2, 3, -3))},
		"other quantifiers":           {net(p, 3), 3, net(prefix(all(1), some(2)), 4, xor(4, 1, 2)), net(rest, 4, xor(4, 1, 2))},
		"another order":               {net(p, 3), 3, net(prefix(some(2, 1)), 4, xor(4, 1, 2)), net(rest, 4, xor(4, 1, 2))},
		"a prefix that is not needed": {net(p, 3), 3, net(prefix(some(2), all(1)), 4, and(4)), net(rest, 4, and(4))},
		"the greatest variables":      {net(prefix(some(65536, 65535)), 65534, or(65534, 65536)), 65536, net(prefix(all(65535)), 65536, and(65536, 65535)), net(prefix(some(65535)), 65534, and(1, 65535), or(65534, 1))},
	} {
		if got, e := circ.Compose(c.n, c.v, c.m); !sameNets(got, c.want) || e != api.OK {
			t.Errorf("Compose of %s: %v, %v", name, got, e)
		}
	}
}

func TestComposeOfWrong(t *testing.T) {
	n := example()
	m := net(prefix(all(2)), 2)
	far := net(prefix(all(7)), 7)
	for i, c := range []struct {
		n api.Net
		v int
		m api.Net
		e api.Errno
	}{
		{n, 4, m, api.ErrNone},
		{n, -3, m, api.ErrNone},
		{n, 6, m, api.ErrNone},
		{n, 0, m, api.ErrNone},
		{n, 65537, m, api.ErrNone},
		{n, math.MinInt, m, api.ErrNone},
		{net(nil, 1, and(1)), 1, net(nil, 1, and(1)), api.ErrNone},
		{n, 7, far, api.ErrNone},
		{n, 2, m, api.ErrRange},
		{n, 3, far, api.ErrRange},
		{n, 3, net(prefix(all(4)), 4), api.ErrRange},
		{n, 3, net(prefix(some(1), all(2, 4)), 1), api.ErrRange},
		{n, 3, net(prefix(some(1), all(2, 3)), 1), api.ErrRange},
		{n, 3, net(prefix(some(3), all(1, 2)), 6, and(6)), api.ErrRange},
		{api.Net{}, 3, far, api.ErrArg},
		{api.Net{}, 3, api.Net{}, api.ErrArg},
		{n, 3, api.Net{}, api.ErrArg},
		{n, 4, api.Net{}, api.ErrArg},
		{n, 0, net(prefix(some(7), some(3)), 7), api.ErrArg},
	} {
		if got, e := circ.Compose(c.n, c.v, c.m); !sameNets(got, api.Net{}) || e != c.e {
			t.Errorf("Compose %d: %v, %v", i, got, e)
		}
	}
	for name, wrong := range notNets() {
		if got, e := circ.Compose(wrong, 1, net(nil, 1, and(1))); !sameNets(got, api.Net{}) || e != api.ErrArg {
			t.Errorf("Compose of %s: %v, %v", name, got, e)
		}
		if got, e := circ.Compose(net(prefix(some(5, 1, 2)), 5), 5, wrong); !sameNets(got, api.Net{}) || e != api.ErrArg {
			t.Errorf("Compose by %s: %v, %v", name, got, e)
		}
	}
}

// empties returns gates without literals.
func empties(from, to int) []api.Gate {
	var l []api.Gate
	for v := from; v <= to; v++ {
		l = append(l, and(v))
	}
	return l
}

// TestComposeAtLimits: variables, and literals, of n and m together.
func TestComposeAtLimits(t *testing.T) {
	two := prefix(some(1, 65536))
	ones := func(k int) []int { return slices.Repeat([]int{1}, k) }
	for name, c := range map[string]struct {
		n, m api.Net
		e    api.Errno
	}{
		"no variable is left, none asked":    {net(two, 1, empties(2, 65535)...), net(prefix(some(1)), -1), api.OK},
		"no variable is left, one asked":     {net(two, 1, empties(2, 65535)...), net(nil, 7, and(7)), api.ErrLong},
		"one is left, one asked":             {net(two, 1, empties(2, 65534)...), net(nil, 7, and(7)), api.OK},
		"one is left, two asked":             {net(two, 1, empties(2, 65534)...), net(nil, 7, and(7), and(8)), api.ErrLong},
		"65534 are left and asked":           {net(two, 1), net(nil, 7, empties(1, 65534)...), api.OK},
		"65534 are left, one more asked":     {net(two, 1), net(nil, 7, empties(1, 65535)...), api.ErrLong},
		"65534 are left, all asked":          {net(two, 1), net(nil, 7, empties(1, 65536)...), api.ErrLong},
		"v is the only one":                  {net(prefix(all(65536)), 65536), net(nil, 7, empties(1, 65536)...), api.ErrLong},
		"65535 for v":                        {net(prefix(all(65536)), 65536), net(nil, 7, empties(2, 65536)...), api.OK},
		"200000 literals":                    {net(two, 2, and(2, ones(199998)...)), net(prefix(all(1)), 7, xor(7, 1, -1)), api.OK},
		"200001 literals":                    {net(two, 2, and(2, ones(199999)...)), net(prefix(all(1)), 7, xor(7, 1, -1)), api.ErrLong},
		"200000 of n":                        {net(two, 2, and(2, ones(200000)...)), net(prefix(all(1)), 7, and(7)), api.OK},
		"200000 of n, one of m":              {net(two, 2, and(2, ones(200000)...)), net(prefix(all(1)), 7, and(7, 1)), api.ErrLong},
		"200000 of m":                        {net(two, 1), net(prefix(all(1)), 7, and(7, ones(200000)...)), api.OK},
		"200000 of m, one of n":              {net(two, 1, and(2, 1)), net(prefix(all(1)), 7, and(7, ones(200000)...)), api.ErrLong},
		"too many literals, and another one": {net(two, 2, and(2, ones(200000)...)), net(prefix(all(3)), 7, and(7, 3)), api.ErrRange},
		"too many literals, and v itself":    {net(two, 2, and(2, ones(200000)...)), net(prefix(all(65536)), 7, and(7, 65536)), api.ErrRange},
		"no variables, and another one":      {net(two, 1, empties(2, 65535)...), net(prefix(all(2)), 7, and(7)), api.ErrRange},
	} {
		got, e := circ.Compose(c.n, 65536, c.m)
		if e != c.e || e != api.OK && !sameNets(got, api.Net{}) {
			t.Errorf("Compose where %s: %d gates, %v", name, len(got.Gates), e)
		}
		if e == api.OK && (!circ.May(got) || len(got.Gates) != len(c.n.Gates)+len(c.m.Gates)) {
			t.Errorf("Compose where %s: %d gates", name, len(got.Gates))
		}
		if got, e := circ.Compose(c.n, 65535, c.m); e != api.ErrNone {
			t.Errorf("Compose where %s, of 65535: %d gates, %v", name, len(got.Gates), e)
		}
	}
	n := net(two, 1, empties(3, 65535)...)
	if got, _ := circ.Compose(n, 65536, net(nil, 7, and(7))); len(got.Gates) != 65534 || got.Gates[0].Var != 2 {
		t.Errorf("%d gates", len(got.Gates))
	}
	n = net(prefix(some(1, 2)), 1, empties(3, 65535)...)
	if got, _ := circ.Compose(n, 2, net(nil, 7, and(7))); len(got.Gates) != 65534 || got.Gates[0].Var != 65536 {
		t.Errorf("%d gates", len(got.Gates))
	}
}

func TestComposeOfAllSorts(t *testing.T) {
	dice := dice(76)
	count := map[api.Errno]int{}
	for i := range 30000 {
		n := dice.net(5, 6)
		inputs := numbersOf(n.Prefix)
		v := dice.number()
		if i%10 > 0 && len(inputs) > 0 {
			v = inputs[dice.below(len(inputs))]
		}
		m := dice.netOver(slices.DeleteFunc(slices.Clone(inputs), func(w int) bool { return w == v && i%5 > 0 }), 4)
		got, e := circ.Compose(n, v, m)
		count[e]++
		want, wantE := api.Net{}, api.OK
		switch {
		case !slices.Contains(inputs, v):
			wantE = api.ErrNone
		case slices.Contains(numbersOf(m.Prefix), v):
			wantE = api.ErrRange
		default:
			want = naiveCompose(n, v, m)
		}
		if !sameNets(got, want) || e != wantE {
			t.Errorf("Compose(%v, %d, %v) = %v, %v", n, v, m, got, e)
		}
	}
	if count[api.OK] < 15000 || count[api.ErrNone] < 1000 || count[api.ErrRange] < 1000 {
		t.Error(count)
	}
}
