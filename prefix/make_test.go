package prefix_test

import (
	"math"
	"slices"

	"skolem/api"
)

// What the tests try: lists, prefixes and formulas of many sorts.

// oddInts are integers at the ends of what a variable, a literal and an int can be.
var oddInts = []int{math.MinInt, math.MinInt + 1, -65537, -65536, -2, -1, 0, 1, 2, 65535, 65536, 65537, math.MaxInt}

// loose are clauses that are not normal.
var loose = [][]int{{0}, {1, 0}, {0, 1}, {2, 1}, {1, 1}, {1, -1}, {-1, 1}, {-2, -2}, {1, 3, 2}, {65537}, {-65537}, {1, 65537}, {math.MinInt}, {math.MaxInt}, {1, math.MinInt}}

// listsOf returns all lists of at most n of some integers, in any order and with repetitions.
func listsOf(n int, some ...int) [][]int {
	all := [][]int{nil}
	from := 0
	for range n {
		to := len(all)
		for _, l := range all[from:to] {
			for _, x := range some {
				all = append(all, append(slices.Clip(slices.Clone(l)), x))
			}
		}
		from = to
	}
	return all
}

// subsets returns all lists that are left of one when some elements are dropped.
func subsets(l []int) [][]int {
	all := [][]int{nil}
	for _, x := range l {
		for _, s := range slices.Clone(all) {
			all = append(all, append(slices.Clone(s), x))
		}
	}
	return all
}

// variables returns from, from + 1, .. to.
func variables(from, to int) []int {
	var l []int
	for v := from; v <= to; v++ {
		l = append(l, v)
	}
	return l
}

// prefixesOf returns all lists of at most n blocks with the given Vars, valid or not.
func prefixesOf(n int, vars [][]int) [][]api.Block {
	ps := [][]api.Block{nil}
	from := 0
	for range n {
		to := len(ps)
		for _, p := range ps[from:to] {
			for _, l := range vars {
				ps = append(ps, append(slices.Clip(slices.Clone(p)), all(l...)), append(slices.Clip(slices.Clone(p)), some(l...)))
			}
		}
		from = to
	}
	return ps
}

// looseCnfs are lists that are no CNF.
func looseCnfs() [][][]int {
	var fs [][][]int
	for _, c := range loose {
		fs = append(fs, [][]int{c}, [][]int{{1}, c}, [][]int{{}, c, {2}})
	}
	wide := append(slices.Repeat([][]int{variables(1, 1000)}, 200), []int{1})
	return append(fs, make([][]int, 20001), slices.Repeat([][]int{{1}}, 20001), wide)
}

// dice is a sequence of numbers that look like random ones, the same at each run.
type dice uint64

func (d *dice) below(n int) int {
	*d = *d*6364136223846793005 + 1442695040888963407
	return int(uint64(*d) >> 33 % uint64(n))
}

// mixed returns the variables 1 to n in any order.
func (d *dice) mixed(n int) []int {
	l := variables(1, n)
	for i := range l {
		j := d.below(i + 1)
		l[i], l[j] = l[j], l[i]
	}
	return l
}

// prefix returns a valid prefix of n variables.
func (d *dice) prefix(n int) []api.Block {
	var p []api.Block
	exists := d.below(2) == 0
	for l := d.mixed(n); len(l) > 0; exists = !exists {
		k := 1 + d.below(min(4, len(l)))
		p = append(p, api.Block{Exists: exists, Vars: l[:k:k]})
		l = l[k:]
	}
	return p
}

// part returns a list without some elements.
func (d *dice) part(l []int) []int {
	return slices.DeleteFunc(slices.Clone(l), func(int) bool { return d.below(2) == 0 })
}

// clauses returns a CNF of some variables, which ascend.
func (d *dice) clauses(n int, vars []int) [][]int {
	var f [][]int
	for range d.below(n + 1) {
		c := d.part(vars)
		for i := range c {
			c[i] *= 1 - 2*d.below(2)
		}
		f = append(f, c)
	}
	return f
}

// dqbf returns a valid Dqbf of n variables; if linear, its On are a chain.
func (d *dice) dqbf(n int, linear bool) api.Dqbf {
	var out api.Dqbf
	var chain []int
	for v := 1; v <= n; v++ {
		if d.below(2) == 0 {
			out.Univ = append(out.Univ, v)
		} else {
			out.Exist = append(out.Exist, api.Dep{Var: v})
		}
	}
	for _, i := range d.mixed(len(out.Exist)) {
		on := d.part(out.Univ)
		if linear {
			chain = slices.Compact(sorted(slices.Concat(chain, d.part(on))))
			on = slices.Clone(chain)
		}
		out.Exist[i-1].On = on
	}
	out.Clauses = d.clauses(4, variables(1, n))
	return out
}

// broken returns lists with one of them changed at one place, or made longer or shorter.
func (d *dice) broken(f [][]int) [][]int {
	g := slices.Clone(f)
	if len(g) == 0 {
		return [][]int{{oddInts[d.below(len(oddInts))]}}
	}
	i := d.below(len(g))
	l := slices.Clone(g[i])
	switch k := d.below(3); {
	case k == 0 || len(l) == 0:
		l = slices.Insert(l, d.below(len(l)+1), d.number())
	case k == 1:
		l[d.below(len(l))] = d.number()
	default:
		l = slices.Delete(l, 0, 1)
	}
	g[i] = l
	return g
}

// number returns a small or an odd number.
func (d *dice) number() int {
	if d.below(3) > 0 {
		return 1 + d.below(10)
	}
	return oddInts[d.below(len(oddInts))]
}

// brokenPrefix returns a prefix that is changed at one place.
func (d *dice) brokenPrefix(p []api.Block) []api.Block {
	q := slices.Clone(p)
	if len(q) == 0 || d.below(5) == 0 {
		return slices.Insert(q, d.below(len(q)+1), api.Block{Exists: d.below(2) == 0, Vars: d.part([]int{1, 12})})
	}
	i := d.below(len(q))
	if d.below(5) == 0 {
		q[i].Exists = !q[i].Exists
		return q
	}
	q[i].Vars = d.broken([][]int{q[i].Vars})[0]
	return q
}

// brokenDqbf returns a Dqbf that is changed at one place.
func (d *dice) brokenDqbf(x api.Dqbf) api.Dqbf {
	switch d.below(4) {
	case 0:
		x.Univ = d.broken([][]int{x.Univ})[0]
	case 1:
		x.Clauses = d.broken(x.Clauses)
	default:
		x.Exist = slices.Clone(x.Exist)
		if len(x.Exist) == 0 {
			x.Exist = []api.Dep{{}}
		}
		row := &x.Exist[d.below(len(x.Exist))]
		if d.below(2) == 0 {
			row.Var = d.number()
		} else {
			row.On = d.broken([][]int{row.On})[0]
		}
	}
	return x
}
