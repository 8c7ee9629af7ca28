package truth_test

import (
	"math"
	"slices"

	"skolem/api"
)

// What the tests try: formulas and tables of many sorts.

// oddInts are integers at the ends of what a variable, a literal and an int can be.
var oddInts = []int{math.MinInt, math.MinInt + 1, -65537, -65536, -2, -1, 0, 1, 2, 65535, 65536, 65537, math.MaxInt}

// variables returns from, from + 1, .. to.
func variables(from, to int) []int {
	var l []int
	for v := from; v <= to; v++ {
		l = append(l, v)
	}
	return l
}

// dice is a sequence of numbers that look like random ones, the same at each run.
type dice uint64

func (d *dice) below(n int) int {
	*d = *d*6364136223846793005 + 1442695040888963407
	return int(uint64(*d) >> 33 % uint64(n))
}

// mixed returns a list in any order.
func (d *dice) mixed(l []int) []int {
	l = slices.Clone(l)
	for i := range l {
		j := d.below(i + 1)
		l[i], l[j] = l[j], l[i]
	}
	return l
}

// names returns n variables, small ones and great ones, ascending.
func (d *dice) names(n int) []int {
	l := variables(1, n)
	if d.below(3) == 0 {
		for i := range l {
			l[i] = 65536 - 3*(n-1-i)
		}
	}
	return l
}

// prefix returns a valid prefix of some variables.
func (d *dice) prefix(vars []int) []api.Block {
	var p []api.Block
	exists := d.below(2) == 0
	for l := d.mixed(vars); len(l) > 0; exists = !exists {
		k := 1 + d.below(min(3, len(l)))
		p = append(p, api.Block{Exists: exists, Vars: l[:k:k]})
		l = l[k:]
	}
	return p
}

// part returns a list without some elements: each stays once in n times.
func (d *dice) part(l []int, n int) []int {
	return slices.DeleteFunc(slices.Clone(l), func(int) bool { return d.below(n) > 0 })
}

// clauses returns n clauses of some variables, which ascend.
func (d *dice) clauses(n int, vars []int) [][]int {
	var f [][]int
	for range n {
		c := d.part(vars, 2)
		if len(c) == 0 && d.below(6) > 0 {
			continue
		}
		for i := range c {
			c[i] *= 1 - 2*d.below(2)
		}
		f = append(f, c)
	}
	return f
}

// qbf returns a valid Qbf of at most n variables.
func (d *dice) qbf(n int) api.Qbf {
	vars := d.names(d.below(n + 1))
	return api.Qbf{Prefix: d.prefix(vars), Clauses: d.clauses(d.below(2*n), vars)}
}

// dqbf returns a valid Dqbf of at most n variables whose tables have at most some bits in all.
func (d *dice) dqbf(n, bits int) api.Dqbf {
	for {
		var out api.Dqbf
		vars := d.names(d.below(n + 1))
		for _, v := range vars {
			if d.below(2) == 0 {
				out.Univ = append(out.Univ, v)
			} else {
				out.Exist = append(out.Exist, row(v))
			}
		}
		for i := range out.Exist {
			out.Exist[i].On = d.part(out.Univ, 2)
		}
		out.Clauses = d.clauses(d.below(2*n), vars)
		if bitsOf(out.Exist) <= bits {
			return out
		}
	}
}

// tables returns tables of some rows.
func (d *dice) tables(rows []api.Dep) []api.Table {
	var bits []bool
	for range bitsOf(rows) {
		bits = append(bits, d.below(2) == 0)
	}
	return cut(rows, bits)
}

// parity returns the clauses that say that an even number of variables is true.
func parity(vars ...int) [][]int {
	var f [][]int
	for _, a := range assignmentsOf(vars) {
		odd := 0
		var c []int
		for _, lit := range a {
			if lit > 0 {
				odd++
			}
			c = append(c, -lit)
		}
		if odd%2 == 1 {
			f = append(f, c)
		}
	}
	return f
}

// brokenTables returns lists of tables that are changed in one thing, so that they are none for their formula any more.
func brokenTables(l []api.Table) [][]api.Table {
	out := [][]api.Table{append(slices.Clone(l), table(60000, "1"))}
	if len(l) > 0 {
		out = append(out, l[:len(l)-1], append(slices.Clone(l), l[0]))
	}
	if len(l) > 1 {
		swapped := slices.Clone(l)
		swapped[0], swapped[1] = swapped[1], swapped[0]
		out = append(out, l[1:], swapped)
	}
	for i := range l {
		for _, change := range []func(t *api.Table){
			func(t *api.Table) { t.Var++ },
			func(t *api.Table) { t.Var = -t.Var },
			func(t *api.Table) { t.Bits = nil },
			func(t *api.Table) { t.Bits = append(slices.Clone(t.Bits), false) },
			func(t *api.Table) { t.Bits = t.Bits[:len(t.Bits)-1] },
			func(t *api.Table) { t.Bits = append(slices.Clone(t.Bits), t.Bits...) },
			func(t *api.Table) { t.On = append(slices.Clone(t.On), 65537) },
			func(t *api.Table) {
				t.On, t.Bits = append(slices.Clone(t.On), 65536), append(slices.Clone(t.Bits), t.Bits...)
			},
		} {
			t := l[i]
			change(&t)
			out = append(out, slices.Concat(l[:i], []api.Table{t}, l[i+1:]))
		}
		if n := len(l[i].On); n > 0 {
			less, other := l[i], l[i]
			less.On, less.Bits = l[i].On[1:], l[i].Bits[:1<<(n-1)]
			other.On = with(l[i].On[:n-1], l[i].On[n-1]+1)
			out = append(out, slices.Concat(l[:i], []api.Table{less}, l[i+1:]), slices.Concat(l[:i], []api.Table{other}, l[i+1:]))
		}
		if n := len(l[i].On); n > 1 {
			turned := l[i]
			turned.On = slices.Clone(l[i].On)
			slices.Reverse(turned.On)
			out = append(out, slices.Concat(l[:i], []api.Table{turned}, l[i+1:]))
		}
	}
	return out
}

// notQbfs are Qbfs that are not valid.
func notQbfs() []api.Qbf {
	p := []api.Block{all(1), some(2)}
	long := all(variables(1, 17)...)
	return []api.Qbf{
		{Prefix: []api.Block{some()}}, {Prefix: []api.Block{all(1), some(), all(2)}}, {Prefix: []api.Block{some(1), some(2)}}, {Prefix: []api.Block{all(1, 1)}}, {Prefix: []api.Block{some(1), all(1)}},
		{Prefix: []api.Block{all(0)}}, {Prefix: []api.Block{some(-1)}}, {Prefix: []api.Block{some(65537)}}, {Prefix: []api.Block{some(math.MinInt)}}, {Prefix: []api.Block{all(variables(1, 1025)...)}},
		{Clauses: [][]int{{1}}}, {Prefix: p, Clauses: [][]int{{1, -2}, {3}}}, {Prefix: p, Clauses: [][]int{{2, 1}}}, {Prefix: p, Clauses: [][]int{{1, -1}}}, {Prefix: p, Clauses: [][]int{{0}}}, {Prefix: p, Clauses: [][]int{{math.MinInt}}},
		{Prefix: p, Clauses: make([][]int, 20001)}, {Prefix: []api.Block{long}, Clauses: [][]int{{18}}}, {Prefix: []api.Block{long, all(18)}},
	}
}

// notDqbfs are Dqbfs that are not valid.
func notDqbfs() []api.Dqbf {
	long := variables(1, 9)
	return []api.Dqbf{
		{Univ: []int{2, 1}}, {Univ: []int{1, 1}}, {Univ: []int{0}}, {Univ: []int{-3}}, {Univ: []int{65537}}, {Univ: variables(1, 1025)},
		{Exist: []api.Dep{row(2), row(1)}}, {Exist: []api.Dep{row(2), row(2)}}, {Exist: []api.Dep{row(0)}}, {Exist: []api.Dep{row(math.MinInt)}}, {Univ: []int{1}, Exist: []api.Dep{row(1)}},
		{Univ: []int{1, 2}, Exist: []api.Dep{row(3, 2, 1)}}, {Univ: []int{1, 2}, Exist: []api.Dep{row(3, 4)}}, {Univ: []int{1}, Exist: []api.Dep{row(3), row(4, 3)}},
		{Clauses: [][]int{{1}}}, {Univ: []int{1}, Clauses: [][]int{{1, 2}}}, {Univ: []int{1, 2}, Clauses: [][]int{{2, 1}}}, {Univ: []int{1}, Clauses: [][]int{{0}}}, {Clauses: make([][]int, 20001)},
		{Univ: long, Clauses: [][]int{{10}}}, {Univ: long, Exist: []api.Dep{row(10, 11)}},
	}
}
