package interp_test

import (
	"math"
	"slices"

	"skolem/api"
	"skolem/sat"
)

// What the tests try: clauses, sides and refutations of many sorts.

// oddInts are integers at the ends of what a literal, the number of a clause and an int can be.
var oddInts = []int{math.MinInt, math.MinInt + 1, -65537, -65536, -1, 0, 1, 19999, 20000, 65536, 65537, math.MaxInt - 1, math.MaxInt}

// loose are lists that are not normal.
var loose = [][]int{{0}, {1, 0}, {0, 1}, {2, 1}, {1, 1}, {1, -1}, {-1, 1}, {-2, -2}, {1, 3, 2}, {65537}, {-65537}, {1, 65537}, {math.MinInt}, {math.MaxInt}, {math.MinInt + 1}, {1, math.MinInt}, {1, math.MaxInt}, {math.MinInt, 1}}

// looseCnfs are lists that are no CNF.
func looseCnfs() [][][]int {
	var all [][][]int
	for _, l := range loose {
		all = append(all, [][]int{l}, [][]int{{1}, l}, [][]int{{}, l, {2}})
	}
	wide := append(slices.Repeat([][]int{variables(1, 50000)}, 4), []int{1})
	return append(all, make([][]int, 20001), slices.Repeat([][]int{{1}}, 20001), wide)
}

// looseNumbers are lists that are no numbers of n clauses.
func looseNumbers(n int) [][]int {
	all := [][]int{{0, 0}, {1, 0}, {1, 1}, {0, 1, 1}, {0, 2, 1}, {n - 1, n - 1}, {n}, {0, n}, {n + 1}, {-1, 0}, {0, -1}, {-2, -1}, numbers(0, n), slices.Repeat([]int{0}, n+1)}
	for _, x := range oddInts {
		if x < 0 || x >= n {
			all = append(all, []int{x}, []int{0, x}, []int{x, 0}, []int{0, 1, x}, []int{x, x})
		}
	}
	return all
}

// numbers returns from, from + 1, .. to.
func numbers(from, to int) []int {
	var l []int
	for v := from; v <= to; v++ {
		l = append(l, v)
	}
	return l
}

func variables(from, to int) []int { return numbers(from, to) }

func negated(l []int) []int {
	l = slices.Clone(l)
	for i := range l {
		l[i] = -l[i]
	}
	return l
}

// normalLists returns all normal lists of the variables.
func normalLists(vars ...int) [][]int {
	all := [][]int{nil}
	for _, v := range vars {
		for _, l := range slices.Clone(all) {
			all = append(all, append(slices.Clone(l), -v), append(slices.Clone(l), v))
		}
	}
	return all
}

// assignments returns all assignments of some variables.
func assignments(vars []int) [][]int {
	return slices.DeleteFunc(normalLists(vars...), func(a []int) bool { return len(a) < len(vars) })
}

// subsets returns all lists of numbers of n clauses.
func subsets(n int) [][]int {
	all := [][]int{nil}
	for i := range n {
		for _, l := range slices.Clone(all) {
			all = append(all, append(slices.Clone(l), i))
		}
	}
	return all
}

// others returns the numbers of n clauses that are not in a list.
func others(l []int, n int) []int {
	return slices.DeleteFunc(numbers(0, n-1), func(i int) bool { return slices.Contains(l, i) })
}

func input(at int, l ...int) api.Line { return api.Line{Rule: api.RuInput, A: at, Lits: l} }

func resolve(a, b, piv int, l ...int) api.Line {
	return api.Line{Rule: api.RuResolve, A: a, B: b, Piv: piv, Lits: l}
}

func proofOf(lines ...api.Line) api.Proof { return api.Proof{Lines: lines} }

// lines writes a proof from clauses line by line.
type lines struct {
	f    [][]int
	list []api.Line
}

// in adds a clause, and returns the number of its line.
func (w *lines) in(at int) int {
	w.list = append(w.list, input(at, w.f[at]...))
	return len(w.list) - 1
}

// on adds the resolvent of two lines, the first one of which has the variable positive, and returns its number.
func (w *lines) on(piv, a, b int) int {
	l, ok := naiveResolvent(w.list[a].Lits, w.list[b].Lits, piv)
	if !ok {
		panic("no resolvent")
	}
	w.list = append(w.list, resolve(a, b, piv, l...))
	return len(w.list) - 1
}

// same adds a line again.
func (w *lines) same(at int) int {
	w.list = append(w.list, w.list[at])
	return len(w.list) - 1
}

func (w *lines) proof() api.Proof { return proofOf(w.list...) }

// dice is a sequence of numbers that look like random ones, the same at each run.
type dice uint64

func (d *dice) below(n int) int {
	*d = *d*6364136223846793005 + 1442695040888963407
	return int(uint64(*d) >> 33 % uint64(n))
}

// mixed returns the elements of a list in any order.
func mixed[E any](d *dice, l []E) []E {
	l = slices.Clone(l)
	for i := range l {
		j := d.below(i + 1)
		l[i], l[j] = l[j], l[i]
	}
	return l
}

// clauseOf returns a clause of n of some variables, with any signs.
func (d *dice) clauseOf(n int, vars []int) []int {
	l := mixed(d, vars)[:min(n, len(vars))]
	slices.Sort(l)
	for i := range l {
		l[i] *= 1 - 2*d.below(2)
	}
	return l
}

// cnf returns clauses of n of some variables each; a few are shorter, or are there twice.
func (d *dice) cnf(clauses, n int, vars []int) [][]int {
	f := make([][]int, clauses)
	for i := range f {
		f[i] = d.clauseOf(n, vars)
		switch d.below(8) {
		case 0:
			f[i] = f[i][:min(len(f[i]), 1+d.below(n))]
		case 1:
			f[i] = f[d.below(i+1)]
		}
	}
	return f
}

// vars returns n variables, small ones, or such with gaps, or the greatest ones.
func (d *dice) vars(n int) []int {
	switch d.below(4) {
	case 0:
		return variables(65537-n, 65536)
	case 1:
		l := mixed(d, variables(1, 3*n))[:n]
		slices.Sort(l)
		return l
	}
	return variables(1, n)
}

// left returns numbers of n clauses: any, or few, or most, or the first ones.
func (d *dice) left(n int) []int {
	switch d.below(4) {
	case 0:
		return numbers(0, d.below(n+1)-1)
	case 1:
		return d.some(n, 1+d.below(8), 8)
	}
	return d.some(n, 1, 2)
}

// some returns numbers of n clauses, each one as often as of every of.
func (d *dice) some(n, as, of int) []int {
	return slices.DeleteFunc(numbers(0, n-1), func(int) bool { return d.below(of) >= as })
}

// refutation returns clauses that nothing satisfies, and a proof of that.
func (d *dice) refutation(vars []int) ([][]int, api.Proof) {
	for {
		f := d.cnf(8+d.below(7*len(vars)), 2+d.below(2), vars)
		if r, _ := sat.Solve(f, nil, api.MaxBudget); r.Value == api.False {
			return f, r.Proof
		}
	}
}

// padded returns a proof with lines in front that it need not have: inputs and resolvents of any lines; and with lines between the others that are there again.
func (d *dice) padded(f [][]int, p api.Proof, front int) api.Proof {
	w := &lines{f: f}
	for len(w.list) < front {
		w.in(d.below(len(f)))
		a, b := d.below(len(w.list)), d.below(len(w.list))
		for _, piv := range w.list[a].Lits {
			if _, ok := naiveResolvent(w.list[a].Lits, w.list[b].Lits, piv); ok {
				w.on(piv, a, b)
				break
			}
		}
	}
	at := make([]int, len(p.Lines))
	for i, l := range p.Lines {
		if l.Rule == api.RuResolve {
			l.A, l.B = at[l.A], at[l.B]
		}
		w.list = append(w.list, l)
		at[i] = len(w.list) - 1
		if i+1 < len(p.Lines) && d.below(3) == 0 {
			w.same(d.below(len(w.list)))
		}
	}
	return w.proof()
}

// woven returns clauses and a refutation with lines of all sorts.
func (d *dice) woven(vars []int) ([][]int, api.Proof) {
	for {
		f, _ := d.refutation(vars)
		if p, ok := d.weave(f); ok {
			return f, p
		}
	}
}

// sided is like woven, with sides: some variables are left or right alone.
func (d *dice) sided(vars []int) (f [][]int, left []int, p api.Proof) {
	third := len(vars) / 3
	for {
		f = d.cnf(6+d.below(4*len(vars)), 2+d.below(2), vars[third:])
		left = d.some(len(f), 1, 2)
		for _, at := range left {
			f[at] = d.clauseOf(1+d.below(3), vars[:len(vars)-third])
		}
		if p, ok := d.weave(f); ok {
			return f, left, p
		}
	}
}

// weave returns a refutation of any resolvents of clauses that are short, until one is empty; false: it does not come to that.
func (d *dice) weave(f [][]int) (api.Proof, bool) {
	w := &lines{f: f}
	for i := range f {
		w.in(i)
	}
	for range 3000 {
		a, b := d.below(len(w.list)), d.below(len(w.list))
		for _, piv := range w.list[a].Lits {
			if l, ok := naiveResolvent(w.list[a].Lits, w.list[b].Lits, piv); ok && len(l) <= 3 {
				w.on(piv, a, b)
				if len(l) == 0 {
					return w.proof(), true
				}
			}
		}
	}
	return api.Proof{}, false
}

// holes returns the clauses that put so many pigeons into so many holes, one in each.
func holes(pigeons, holes int) [][]int {
	in := func(p, h int) int { return p*holes + h + 1 }
	var f [][]int
	for p := range pigeons {
		f = append(f, variables(in(p, 0), in(p, holes-1)))
	}
	for h := range holes {
		for q := range pigeons {
			for p := range q {
				f = append(f, []int{-in(p, h), -in(q, h)})
			}
		}
	}
	return f
}
