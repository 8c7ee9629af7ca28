package circ_test

import (
	"math"
	"slices"

	"skolem/api"
)

// What the tests try: nets of many sorts.

// oddInts are integers at the ends of what a variable, a literal and an int can be.
var oddInts = []int{math.MinInt, math.MinInt + 1, -65537, -65536, -2, -1, 0, 1, 2, 65535, 65536, 65537, math.MaxInt}

// loose are lists of literals that are not normal.
var loose = [][]int{{0}, {1, 0}, {0, 1}, {2, 1}, {1, 1}, {1, -1}, {-1, 1}, {-2, -2}, {1, 3, 2}, {65537}, {-65537}, {1, 65537}, {math.MinInt}, {math.MaxInt}, {1, math.MinInt}, {-2, 1}}

// variables returns from, from + 1, .. to.
func variables(from, to int) []int {
	var l []int
	for v := from; v <= to; v++ {
		l = append(l, v)
	}
	return l
}

// assignmentsOf returns all assignments of some variables, which ascend, that say something of each.
func assignmentsOf(vars []int) [][]int {
	out := [][]int{nil}
	for _, v := range vars {
		var next [][]int
		for _, a := range out {
			next = append(next, append(slices.Clone(a), -v), append(slices.Clone(a), v))
		}
		out = next
	}
	return out
}

// tuples returns all lists of n of some numbers.
func tuples(n int, of []int) [][]int {
	out := [][]int{nil}
	for range n {
		var next [][]int
		for _, l := range out {
			for _, x := range of {
				next = append(next, append(slices.Clone(l), x))
			}
		}
		out = next
	}
	return out
}

// dice is a sequence of numbers that look like random ones, the same at each run.
type dice uint64

func (d *dice) below(n int) int {
	*d = *d*6364136223846793005 + 1442695040888963407
	return int(uint64(*d) >> 33 % uint64(n))
}

// mixed returns a list in any order.
func mixed[E any](d *dice, l []E) []E {
	l = slices.Clone(l)
	for i := range l {
		j := d.below(i + 1)
		l[i], l[j] = l[j], l[i]
	}
	return l
}

// part returns a list without some elements.
func (d *dice) part(l []int) []int {
	return slices.DeleteFunc(slices.Clone(l), func(int) bool { return d.below(2) == 0 })
}

// signed returns each variable or its negative.
func (d *dice) signed(vars []int) []int {
	l := slices.Clone(vars)
	for i := range l {
		l[i] *= 1 - 2*d.below(2)
	}
	return l
}

// names returns n variables in any order, small ones or great ones.
func (d *dice) names(n int) []int {
	l := variables(1, n+d.below(4))
	if d.below(4) == 0 {
		for i := range l {
			l[i] = 65537 - l[i]
		}
	}
	return mixed(d, l)[:n]
}

// prefix returns a valid prefix of some variables.
func (d *dice) prefix(vars []int) []api.Block {
	var p []api.Block
	exists := d.below(2) == 0
	for l := vars; len(l) > 0; exists = !exists {
		k := 1 + d.below(min(3, len(l)))
		p = append(p, api.Block{Exists: exists, Vars: slices.Clone(l[:k])})
		l = l[k:]
	}
	return p
}

// literal returns a literal of one of some variables, often of a late one.
func (d *dice) literal(vars []int) int {
	i := max(d.below(len(vars)), d.below(len(vars)))
	return vars[i] * (1 - 2*d.below(2))
}

// gate returns a gate over some variables (none: one without literals).
func (d *dice) gate(v int, over []int) api.Gate {
	g := api.Gate{Var: v, Kind: api.GateKind(1 + d.below(4))}
	n := d.below(5)
	switch {
	case len(over) == 0:
		g.Kind = api.GateKind(1 + d.below(2))
		return g
	case g.Kind == api.GateXor:
		n = 2
	case g.Kind == api.GateIte:
		n = 3
	}
	for range n {
		g.In = append(g.In, d.literal(over))
	}
	return g
}

// net returns a valid net of at most some variables in the prefix, and gates.
func (d *dice) net(inputs, gates int) api.Net {
	i, k := d.below(inputs+1), d.below(gates+1)
	if i+k == 0 {
		k = 1
	}
	names := d.names(i + k)
	n := api.Net{Prefix: d.prefix(names[:i])}
	for j := i; j < i+k; j++ {
		n.Gates = append(n.Gates, d.gate(names[j], names[:j]))
	}
	n.Out = d.literal(names)
	return n
}

// netOver returns a valid net whose prefix has variables of some alone.
func (d *dice) netOver(vars []int, gates int) api.Net {
	inputs := mixed(d, d.part(vars))
	var rest []int
	for _, v := range d.names(len(vars) + gates + 4) {
		if !slices.Contains(inputs, v) {
			rest = append(rest, v)
		}
	}
	k := d.below(gates + 1)
	if len(inputs) == 0 {
		k = max(1, k)
	}
	names := slices.Concat(inputs, rest[:k])
	n := api.Net{Prefix: d.prefix(inputs)}
	for j := len(inputs); j < len(names); j++ {
		n.Gates = append(n.Gates, d.gate(names[j], names[:j]))
	}
	n.Out = d.literal(names)
	return n
}

// assignment returns a normal list of literals of some variables, not of all of them.
func (d *dice) assignment(vars []int) []int { return d.signed(sorted(d.part(vars))) }

// number returns a small or an odd number.
func (d *dice) number() int {
	if d.below(3) > 0 {
		return (1 + d.below(12)) * (1 - 2*d.below(2))
	}
	return oddInts[d.below(len(oddInts))]
}

// brokenList returns a list that is changed at one place, or is longer or shorter.
func (d *dice) brokenList(l []int) []int {
	l = slices.Clone(l)
	switch k := d.below(3); {
	case k == 0 || len(l) == 0:
		return slices.Insert(l, d.below(len(l)+1), d.number())
	case k == 1:
		l[d.below(len(l))] = d.number()
		return l
	}
	return slices.Delete(l, 0, 1)
}

// brokenGate returns a gate that is changed in one thing.
func (d *dice) brokenGate(g api.Gate) api.Gate {
	switch d.below(3) {
	case 0:
		g.Var = d.number()
	case 1:
		g.Kind = api.GateKind(d.below(6))
	default:
		g.In = d.brokenList(g.In)
	}
	return g
}

// broken returns a net that is changed at one place; it may still be valid.
func (d *dice) broken(n api.Net) api.Net {
	n.Prefix, n.Gates = slices.Clone(n.Prefix), slices.Clone(n.Gates)
	switch d.below(6) {
	case 0:
		n.Out = d.number()
	case 1:
		n.Prefix = slices.Insert(n.Prefix, d.below(len(n.Prefix)+1), api.Block{Exists: d.below(2) == 0, Vars: d.part([]int{1, 12})})
	case 2:
		if len(n.Prefix) > 0 {
			b := &n.Prefix[d.below(len(n.Prefix))]
			b.Vars = d.brokenList(b.Vars)
		}
	case 3:
		if len(n.Prefix) > 0 {
			b := &n.Prefix[d.below(len(n.Prefix))]
			b.Exists = !b.Exists
		}
	case 4:
		if len(n.Gates) > 1 {
			i := d.below(len(n.Gates) - 1)
			n.Gates[i], n.Gates[i+1] = n.Gates[i+1], n.Gates[i]
		}
	default:
		if len(n.Gates) > 0 {
			i := d.below(len(n.Gates))
			n.Gates[i] = d.brokenGate(n.Gates[i])
		}
	}
	return n
}

// example returns the net of the chapter's section 'Examples'.
func example() api.Net {
	return net(prefix(some(1), all(2), some(3)), 5, and(4, 1, -2), ite(5, 4, 3, -3))
}

// full returns a net that has some literals in all, in gates of 1000, with one variable in the prefix.
func full(literals int) api.Net {
	n := net(prefix(some(1)), 1)
	for v := 2; literals > 0; v++ {
		k := min(1000, literals)
		n.Gates = append(n.Gates, or(v, slices.Repeat([]int{1}, k)...))
		literals -= k
	}
	return n
}

// chain returns a net of many gates, each of which uses the one before it twice.
func chain(gates int) api.Net {
	n := net(prefix(all(1)), gates+1)
	for v := 2; v <= gates+1; v++ {
		n.Gates = append(n.Gates, xor(v, v-1, 1))
		if v%2 == 0 {
			n.Gates[v-2] = and(v, v-1, v-1, 1)
		}
	}
	return n
}

// notNets are nets that are not valid.
func notNets() map[string]api.Net {
	p := prefix(some(1), all(2))
	return map[string]api.Net{
		"nothing":                     {},
		"Out without variables":       net(nil, 1),
		"Out 0":                       net(p, 0),
		"Out that is nowhere":         net(p, 3, and(4, 1)),
		"Out -3 that is nowhere":      net(p, -3),
		"Out 65537":                   net(p, 65537),
		"Out -65537":                  net(p, -65537),
		"Out the least int":           net(p, math.MinInt),
		"Out the greatest int":        net(p, math.MaxInt),
		"an empty block":              net(prefix(some()), 3, and(3)),
		"an empty block at the end":   net(prefix(some(1), all()), 1),
		"an empty block between":      net(prefix(some(1), all(), some(2)), 1),
		"neighbours that exist":       net(prefix(some(1), some(2)), 1),
		"neighbours that are for all": net(prefix(some(3), all(1), all(2)), 1),
		"a variable twice":            net(prefix(some(1, 2, 1)), 1),
		"a variable in two blocks":    net(prefix(some(1, 2), all(2)), 1),
		"variable 0":                  net(prefix(some(1, 0)), 1),
		"variable -2":                 net(prefix(some(1, -2)), 1),
		"variable 65537":              net(prefix(some(1), all(65537)), 1),
		"variable -2^63":              net(prefix(some(1), all(math.MinInt)), 1),
		"1025 variables":              net(prefix(some(variables(1, 1025)...)), 1),
		"1025 variables in blocks":    net(prefix(some(variables(1, 1024)...), all(2000)), 1),
		"a gate of no kind":           net(p, 1, api.Gate{Var: 3, In: []int{1, 2}}),
		"a gate of a fifth kind":      net(p, 1, api.Gate{Var: 3, Kind: 5, In: []int{1, 2}}),
		"a gate of the last kind":     net(p, 1, api.Gate{Var: 3, Kind: 255}),
		"xor of nothing":              net(p, 1, xor(3)),
		"xor of one":                  net(p, 1, xor(3, 1)),
		"xor of three":                net(p, 1, xor(3, 1, 2, 1)),
		"ite of nothing":              net(p, 1, ite(3)),
		"ite of two":                  net(p, 1, ite(3, 1, 2)),
		"ite of four":                 net(p, 1, ite(3, 1, 2, 1, 2)),
		"a gate of itself":            net(p, 1, and(3, 1, 3)),
		"a gate of its negative":      net(p, 1, or(3, -3)),
		"a gate of a later one":       net(p, 1, and(3, 4), and(4, 1)),
		"a gate of nothing known":     net(p, 1, and(3, 5)),
		"Var in the prefix":           net(p, 1, and(2, 1)),
		"Var of two gates":            net(p, 1, and(3, 1), and(4), or(3, 2)),
		"Var 0":                       net(p, 1, and(0)),
		"Var -3":                      net(p, 1, and(-3)),
		"Var 65537":                   net(p, 1, and(65537)),
		"Var the least int":           net(p, 1, and(math.MinInt)),
		"literal 0":                   net(p, 1, and(3, 1, 0)),
		"literal 65537":               net(p, 1, or(3, 65537)),
		"literal -65537":              net(p, 1, xor(3, 1, -65537)),
		"literal 65536 of nothing":    net(p, 1, ite(3, 65536, 1, 2)),
		"literal the least int":       net(p, 1, and(3, math.MinInt)),
		"literal the least but one":   net(p, 1, and(3, math.MinInt+1)),
		"200001 literals in one":      net(p, 1, and(3, slices.Repeat([]int{1}, 200001)...)),
		"200001 literals":             full(200001),
		"200000 and one more":         net(p, 1, append(full(200000).Gates[1:], and(60000, slices.Repeat([]int{2}, 1001)...))...),
	}
}
