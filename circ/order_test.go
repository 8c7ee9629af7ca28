package circ_test

import (
	"math"
	"slices"
	"testing"

	"skolem/api"
	"skolem/circ"
)

// P5.2

func gates(g ...api.Gate) []api.Gate { return g }

func TestOrder(t *testing.T) {
	for name, c := range map[string]struct {
		ins   []int
		gates []api.Gate
		want  []int // the places in gates
		e     api.Errno
	}{
		"nothing":                       {nil, nil, nil, api.OK},
		"empty lists":                   {[]int{}, []api.Gate{}, nil, api.OK},
		"no gates":                      {[]int{3, 1}, nil, nil, api.OK},
		"the section's example":         {[]int{1}, gates(or(5, 4), and(4, 1), and(6, 1)), []int{1, 0, 2}, api.OK},
		"gates that are in order":       {[]int{1}, gates(and(4, 1), and(6, 1), or(5, 4), xor(2, 5, -6)), []int{0, 1, 2, 3}, api.OK},
		"gates that turn":               {[]int{1}, gates(xor(2, 5, -6), or(5, 4), and(6, 1), and(4, 1)), []int{2, 3, 1, 0}, api.OK},
		"gates without literals":        {nil, gates(or(5, 4), and(6), and(4)), []int{1, 2, 0}, api.OK},
		"the first one again":           {[]int{1}, gates(and(9, 8), and(7, 1), and(8, 7), and(6, 1)), []int{1, 2, 0, 3}, api.OK},
		"not as a queue takes them":     {[]int{1}, gates(and(9, 4), and(3, 9), and(4, 1), and(5, 1)), []int{2, 0, 1, 3}, api.OK},
		"not as a stack takes them":     {[]int{1}, gates(and(2, 5), and(3, 5), and(5, 1)), []int{2, 0, 1}, api.OK},
		"literals that occur twice":     {[]int{1}, gates(and(2, 3, 3, -3), xor(3, 4, 4), ite(4, 1, -1, 1)), []int{2, 1, 0}, api.OK},
		"negative literals":             {[]int{1, 2}, gates(ite(5, -4, -2, 1), xor(4, -1, -2)), []int{1, 0}, api.OK},
		"a later one, and an earlier":   {[]int{1}, gates(and(2, 1), and(3, 2, 4), and(4, 2)), []int{0, 2, 1}, api.OK},
		"ins that none uses":            {[]int{65536, 7, 1}, gates(and(65535, 7)), []int{0}, api.OK},
		"a gate of itself":              {[]int{1}, gates(and(4, 4)), nil, api.ErrCycle},
		"a gate of its negative":        {[]int{1}, gates(and(3, 1), and(4, 1, -4)), nil, api.ErrCycle},
		"two in a circle":               {[]int{1}, gates(and(4, 5), and(5, -4)), nil, api.ErrCycle},
		"three in a circle":             {[]int{1}, gates(xor(4, 6, 1), and(2, 1), or(5, 4), and(6, 2, 5)), nil, api.ErrCycle},
		"one behind a circle":           {[]int{1}, gates(and(7, 4), and(4, 5), and(5, 4)), nil, api.ErrCycle},
		"a circle that is not needed":   {nil, gates(and(1), and(2, 1), or(4, 5), or(5, 4)), nil, api.ErrCycle},
		"ins twice":                     {[]int{1, 2, 1}, nil, nil, api.ErrArg},
		"0 in ins":                      {[]int{0}, nil, nil, api.ErrArg},
		"-1 in ins":                     {[]int{1, -1}, nil, nil, api.ErrArg},
		"65537 in ins":                  {[]int{65537}, nil, nil, api.ErrArg},
		"the least int in ins":          {[]int{math.MinInt}, nil, nil, api.ErrArg},
		"Var 0":                         {[]int{1}, gates(and(0, 1)), nil, api.ErrArg},
		"Var -4":                        {[]int{1}, gates(and(-4, 1)), nil, api.ErrArg},
		"Var 65537":                     {[]int{1}, gates(and(65537, 1)), nil, api.ErrArg},
		"Var the least int":             {[]int{1}, gates(and(math.MinInt, 1)), nil, api.ErrArg},
		"Var of ins":                    {[]int{1, 2}, gates(and(3), and(2, 1)), nil, api.ErrArg},
		"Var of two gates":              {[]int{1}, gates(and(2, 1), and(2, 1)), nil, api.ErrArg},
		"no kind":                       {[]int{1}, gates(api.Gate{Var: 2}), nil, api.ErrArg},
		"a fifth kind":                  {[]int{1}, gates(api.Gate{Var: 2, Kind: 5, In: []int{1}}), nil, api.ErrArg},
		"xor of one":                    {[]int{1}, gates(xor(2, 1)), nil, api.ErrArg},
		"xor of three":                  {[]int{1}, gates(xor(2, 1, 1, 1)), nil, api.ErrArg},
		"ite of two":                    {[]int{1}, gates(ite(2, 1, 1)), nil, api.ErrArg},
		"ite of four":                   {[]int{1}, gates(ite(2, 1, 1, 1, 1)), nil, api.ErrArg},
		"literal 0":                     {[]int{1}, gates(and(2, 0)), nil, api.ErrArg},
		"a literal of nothing":          {[]int{1}, gates(and(2, 1, 3)), nil, api.ErrArg},
		"literal 65537":                 {[]int{1}, gates(and(2, -65537)), nil, api.ErrArg},
		"the least int":                 {[]int{1}, gates(and(2, math.MinInt)), nil, api.ErrArg},
		"a circle, and a wrong one":     {[]int{1}, gates(and(4, 4), and(5, 3)), nil, api.ErrArg},
		"a circle, and Var twice":       {[]int{1}, gates(and(4, 4), and(1)), nil, api.ErrArg},
		"200000 literals":               {[]int{1}, gates(and(3, 2), and(2, slices.Repeat([]int{1}, 199999)...)), []int{1, 0}, api.OK},
		"200001 literals":               {[]int{1}, gates(and(3, 2), and(2, slices.Repeat([]int{1}, 200000)...)), nil, api.ErrLong},
		"200001 in one":                 {[]int{1}, gates(and(2, slices.Repeat([]int{1}, 200001)...)), nil, api.ErrLong},
		"200001, and a circle":          {[]int{1}, gates(and(3, 3), and(2, slices.Repeat([]int{1}, 200000)...)), nil, api.ErrLong},
		"200001, and a wrong one":       {[]int{1}, gates(and(2, slices.Repeat([]int{1}, 200001)...), and(3, 9)), nil, api.ErrArg},
		"200001, and a wrong kind":      {[]int{1}, gates(and(2, slices.Repeat([]int{1}, 200001)...), xor(3, 1)), nil, api.ErrArg},
		"200001, and a wrong Var":       {[]int{1}, gates(and(2, slices.Repeat([]int{1}, 200001)...), and(1)), nil, api.ErrArg},
		"200001, and ins twice":         {[]int{1, 1}, gates(and(2, slices.Repeat([]int{1}, 200001)...)), nil, api.ErrArg},
		"200001, the last one is wrong": {[]int{1}, gates(and(2, append(slices.Repeat([]int{1}, 200001), 5)...)), nil, api.ErrArg},
	} {
		var want []api.Gate
		for _, i := range c.want {
			want = append(want, c.gates[i])
		}
		if got, e := circ.Order(c.ins, c.gates); !sameGates(got, want) || e != c.e {
			t.Errorf("Order of %s: %d gates, %v", name, len(got), e)
		}
	}
}

// TestOrderOfOdd: each integer in ins, as Var and as literal.
func TestOrderOfOdd(t *testing.T) {
	for _, x := range oddInts {
		for _, y := range oddInts {
			_, e := circ.Order([]int{2, x}, gates(or(y, 2)))
			if want := areVariables([]int{2, x, y}); (e == api.OK) != want || !want && e != api.ErrArg {
				t.Errorf("Order with %d and %d: %v", x, y, e)
			}
		}
		want := api.ErrArg
		switch x {
		case -65536, -2, 2, 65536:
			want = api.OK
		case 65535:
			want = api.ErrCycle
		}
		if _, e := circ.Order([]int{2, 65536}, gates(or(65535, 2, x))); e != want {
			t.Errorf("Order with the literal %d: %v", x, e)
		}
	}
}

func TestOrderOfAllSorts(t *testing.T) {
	dice := dice(74)
	count := map[api.Errno]int{}
	for i := range 20000 {
		n := dice.net(5, 9)
		ins, l := numbersOf(n.Prefix), mixed(&dice, n.Gates)
		for range i % 3 {
			if len(l) > 0 {
				at := dice.below(len(l))
				g := dice.gate(l[at].Var, namesOf(n))
				if dice.below(3) == 0 {
					g = dice.brokenGate(g)
				}
				l[at] = g
			}
		}
		got, e := circ.Order(ins, l)
		count[e]++
		if !naiveMayGates(ins, l) {
			if got != nil || e != api.ErrArg {
				t.Errorf("Order(%v, %v) = %v, %v", ins, l, got, e)
			}
			continue
		}
		want, ok := naiveOrder(ins, l)
		if !sameGates(got, want) || ok != (e == api.OK) || !ok && e != api.ErrCycle {
			t.Errorf("Order(%v, %v) = %v, %v", ins, l, got, e)
		}
	}
	if count[api.OK] < 5000 || count[api.ErrCycle] < 1000 || count[api.ErrArg] < 1000 {
		t.Error(count)
	}
}

// naiveMayGates reports whether gates may be put in order.
func naiveMayGates(ins []int, l []api.Gate) bool {
	names := slices.Clone(ins)
	for _, g := range l {
		names = append(names, g.Var)
	}
	return areVariables(names) && !slices.ContainsFunc(l, func(g api.Gate) bool { return !hasKind(g) || !areLiterals(g.In, names) })
}

// TestOrderOfMany: gates at the limits are put in order soon, whichever way they stand.
func TestOrderOfMany(t *testing.T) {
	n := chain(65535)
	if got, e := circ.Order([]int{1}, n.Gates); !sameGates(got, n.Gates) || e != api.OK {
		t.Errorf("%d gates, %v", len(got), e)
	}
	back := slices.Clone(n.Gates)
	slices.Reverse(back)
	if got, e := circ.Order([]int{1}, back); !sameGates(got, n.Gates) || e != api.OK {
		t.Errorf("%d gates, %v", len(got), e)
	}
	// The last gate lets all others go, and the first one of them comes first again and again.
	wide := gates()
	for v := 65535; v > 1; v-- {
		wide = append(wide, or(v, 65536, 1, 65536))
	}
	wide = append(wide, and(65536, 1))
	want := slices.Concat(wide[65534:], wide[:65534])
	if got, e := circ.Order([]int{1}, wide); !sameGates(got, want) || e != api.OK {
		t.Errorf("%d gates, %v", len(got), e)
	}
	if got, e := circ.Order(variables(1, 65536), nil); got != nil || e != api.OK {
		t.Errorf("%d gates, %v", len(got), e)
	}
	if got, e := circ.Order(variables(1, 65535), gates(and(65536, 65535))); len(got) != 1 || e != api.OK {
		t.Errorf("%d gates, %v", len(got), e)
	}
	back[0].In = []int{65536, 65536, 65536}
	if got, e := circ.Order([]int{1}, back); got != nil || e != api.ErrCycle {
		t.Errorf("%d gates, %v", len(got), e)
	}
}
