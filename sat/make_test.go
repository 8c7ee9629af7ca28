package sat_test

import (
	"math"
	"slices"
)

// What the tests try: questions of many sorts.

// oddInts are integers at the ends of what a literal and an int can be.
var oddInts = []int{math.MinInt, math.MinInt + 1, -65538, -65537, -65536, -1, 0, 1, 65536, 65537, 65538, math.MaxInt - 1, math.MaxInt}

// loose are lists that are not normal.
var loose = [][]int{{0}, {1, 0}, {0, 1}, {2, 1}, {1, 1}, {1, -1}, {-1, 1}, {-2, -2}, {1, 3, 2}, {65537}, {-65537}, {1, 65537}, {math.MinInt}, {math.MaxInt}, {1, math.MinInt}, {1, math.MaxInt}}

// looseCnfs are lists that are no CNF.
func looseCnfs() [][][]int {
	var all [][][]int
	for _, l := range loose {
		all = append(all, [][]int{l}, [][]int{{1}, l}, [][]int{{}, l, {2}})
	}
	wide := append(slices.Repeat([][]int{variables(1, 50000)}, 4), []int{1})
	return append(all, make([][]int, 20001), slices.Repeat([][]int{{1}}, 20001), wide)
}

// variables returns from, from + 1, .. to.
func variables(from, to int) []int {
	var l []int
	for v := from; v <= to; v++ {
		l = append(l, v)
	}
	return l
}

func negated(l []int) []int {
	l = slices.Clone(l)
	for i := range l {
		l[i] = -l[i]
	}
	return l
}

// normalLists returns all normal lists of the variables.
func normalLists(vars ...int) [][]int {
	all := [][]int{nil}
	for _, v := range vars {
		for _, l := range slices.Clone(all) {
			all = append(all, append(slices.Clone(l), -v), append(slices.Clone(l), v))
		}
	}
	return all
}

// cnfsOf returns all sequences of n of some clauses.
func cnfsOf(n int, some [][]int) [][][]int {
	all := [][][]int{nil}
	for range n {
		var longer [][][]int
		for _, f := range all {
			for _, c := range some {
				longer = append(longer, append(slices.Clip(slices.Clone(f)), c))
			}
		}
		all = longer
	}
	return all
}

// dice is a sequence of numbers that look like random ones, the same at each run.
type dice uint64

func (d *dice) below(n int) int {
	*d = *d*6364136223846793005 + 1442695040888963407
	return int(uint64(*d) >> 33 % uint64(n))
}

// mixed returns the elements of a list in any order.
func mixed[E any](d *dice, l []E) []E {
	l = slices.Clone(l)
	for i := range l {
		j := d.below(i + 1)
		l[i], l[j] = l[j], l[i]
	}
	return l
}

// clauseOf returns a clause of n of some variables, with any signs.
func (d *dice) clauseOf(n int, vars []int) []int {
	l := mixed(d, vars)[:min(n, len(vars))]
	slices.Sort(l)
	for i := range l {
		l[i] *= 1 - 2*d.below(2)
	}
	return l
}

// clausesOf returns clauses of n of some variables each.
func (d *dice) clausesOf(clauses, n int, vars []int) [][]int {
	f := make([][]int, clauses)
	for i := range f {
		f[i] = d.clauseOf(n, vars)
	}
	return f
}

// cnf returns clauses of n of some variables each; a few are shorter.
func (d *dice) cnf(clauses, n int, vars []int) [][]int {
	f := d.clausesOf(clauses, n, vars)
	for i := range f {
		if d.below(8) == 0 {
			f[i] = f[i][:min(len(f[i]), 1+d.below(n))]
		}
	}
	return f
}

// vars returns n variables, small ones, or such with gaps, or the greatest ones.
func (d *dice) vars(n int) []int {
	switch d.below(4) {
	case 0:
		return variables(65537-n, 65536)
	case 1:
		l := mixed(d, variables(1, 3*n))[:n]
		slices.Sort(l)
		return l
	}
	return variables(1, n)
}

// holes returns the clauses that put so many pigeons into so many holes, one in each.
func holes(pigeons, holes int) [][]int {
	in := func(p, h int) int { return p*holes + h + 1 }
	var f [][]int
	for p := range pigeons {
		f = append(f, variables(in(p, 0), in(p, holes-1)))
	}
	for h := range holes {
		for q := range pigeons {
			for p := range q {
				f = append(f, []int{-in(p, h), -in(q, h)})
			}
		}
	}
	return f
}

// ordered returns the clause of some literals of different variables.
func ordered(l ...int) []int {
	slices.SortFunc(l, func(x, y int) int { return variable(x) - variable(y) })
	return l
}

// circuit makes the clauses of gates.
type circuit struct {
	f    [][]int
	last int // the last variable
}

func (c *circuit) add(l ...int) { c.f = append(c.f, ordered(l...)) }

func (c *circuit) and(a, b int) int {
	c.last++
	x := c.last
	c.add(a, -x)
	c.add(b, -x)
	c.add(-a, -b, x)
	return x
}

func (c *circuit) or(a, b int) int { return -c.and(-a, -b) }

func (c *circuit) xor(a, b int) int {
	c.last++
	x := c.last
	c.add(a, b, -x)
	c.add(-a, -b, -x)
	c.add(a, -b, x)
	c.add(-a, b, x)
	return x
}

// product returns the bits of the product of two numbers, the lowest one first.
func (c *circuit) product(a, b []int) []int {
	c.last++
	zero := c.last
	c.add(-zero)
	sum := slices.Repeat([]int{zero}, len(a)+len(b))
	for i := range b {
		carry := zero
		for j := range a {
			p := c.and(a[j], b[i])
			half := c.xor(sum[i+j], p)
			carry, sum[i+j] = c.or(c.and(sum[i+j], p), c.and(half, carry)), c.xor(half, carry)
		}
		sum[i+len(a)] = carry
	}
	return sum
}

// products returns clauses that a times b and b times a differ, for numbers of n bits, so that nothing satisfies them.
func products(n int) [][]int {
	c := circuit{last: 2 * n}
	a, b := variables(1, n), variables(n+1, 2*n)
	x, y := c.product(a, b), c.product(b, a)
	var differ []int
	for i := range x {
		differ = append(differ, c.xor(x[i], y[i]))
	}
	c.add(differ...)
	return c.f
}

// parities returns clauses that the parity of n variables is another one in another order, so that nothing satisfies them.
func parities(d *dice, n int) [][]int {
	c := circuit{last: n}
	parity := func(l []int) int {
		x := l[0]
		for _, y := range l[1:] {
			x = c.xor(x, y)
		}
		return x
	}
	x, y := parity(variables(1, n)), parity(mixed(d, variables(1, n)))
	c.add(x, y)
	c.add(-x, -y)
	return c.f
}

// chain returns clauses by which 1 makes 2 true, that makes 3 true, and so on.
func chain(n int) [][]int {
	var f [][]int
	for v := 1; v < n; v++ {
		f = append(f, []int{-v, v + 1})
	}
	return f
}
