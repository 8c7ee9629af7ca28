package proof_test

import (
	"math"
	"slices"

	"skolem/api"
	"skolem/sat"
)

// What the tests try: clauses, lines and proofs of many sorts.

// oddInts are integers at the ends of what a literal and an int can be.
var oddInts = []int{math.MinInt, math.MinInt + 1, -65538, -65537, -65536, -1, 0, 1, 65536, 65537, 65538, math.MaxInt - 1, math.MaxInt}

// loose are lists that are not normal.
var loose = [][]int{{0}, {1, 0}, {0, 1}, {2, 1}, {1, 1}, {1, -1}, {-1, 1}, {-2, -2}, {1, 3, 2}, {65537}, {-65537}, {1, 65537}, {math.MinInt}, {math.MaxInt}, {1, math.MinInt}, {1, math.MaxInt}}

// looseCnfs are lists that are no CNF.
func looseCnfs() [][][]int {
	var all [][][]int
	for _, l := range loose {
		all = append(all, [][]int{l}, [][]int{{1}, l}, [][]int{{}, l, {2}})
	}
	wide := append(slices.Repeat([][]int{variables(1, 50000)}, 4), []int{1})
	return append(all, make([][]int, 20001), slices.Repeat([][]int{{1}}, 20001), wide)
}

// variables returns from, from + 1, .. to.
func variables(from, to int) []int {
	var l []int
	for v := from; v <= to; v++ {
		l = append(l, v)
	}
	return l
}

func negated(l []int) []int {
	l = slices.Clone(l)
	for i := range l {
		l[i] = -l[i]
	}
	return l
}

// normalLists returns all normal lists of the variables.
func normalLists(vars ...int) [][]int {
	all := [][]int{nil}
	for _, v := range vars {
		for _, l := range slices.Clone(all) {
			all = append(all, append(slices.Clone(l), -v), append(slices.Clone(l), v))
		}
	}
	return all
}

func input(at int, l ...int) api.Line { return api.Line{Rule: api.RuInput, A: at, Lits: l} }

func resolve(a, b, piv int, l ...int) api.Line {
	return api.Line{Rule: api.RuResolve, A: a, B: b, Piv: piv, Lits: l}
}

func proofOf(lines ...api.Line) api.Proof { return api.Proof{Lines: lines} }

// inputs returns a line for each clause.
func inputs(f [][]int) []api.Line {
	var lines []api.Line
	for i, c := range f {
		lines = append(lines, input(i, c...))
	}
	return lines
}

// sequences returns all sequences of n of some lines.
func sequences(n int, some []api.Line) [][]api.Line {
	all := [][]api.Line{nil}
	for range n {
		var longer [][]api.Line
		for _, s := range all {
			for _, l := range some {
				longer = append(longer, append(slices.Clip(slices.Clone(s)), l))
			}
		}
		all = longer
	}
	return all
}

// dice is a sequence of numbers that look like random ones, the same at each run.
type dice uint64

func (d *dice) below(n int) int {
	*d = *d*6364136223846793005 + 1442695040888963407
	return int(uint64(*d) >> 33 % uint64(n))
}

// mixed returns the elements of a list in any order.
func mixed[E any](d *dice, l []E) []E {
	l = slices.Clone(l)
	for i := range l {
		j := d.below(i + 1)
		l[i], l[j] = l[j], l[i]
	}
	return l
}

// clauseOf returns a clause of n of some variables, with any signs.
func (d *dice) clauseOf(n int, vars []int) []int {
	l := mixed(d, vars)[:min(n, len(vars))]
	slices.Sort(l)
	for i := range l {
		l[i] *= 1 - 2*d.below(2)
	}
	return l
}

// cnf returns clauses of n of some variables each; a few are shorter, or are there twice.
func (d *dice) cnf(clauses, n int, vars []int) [][]int {
	f := make([][]int, clauses)
	for i := range f {
		f[i] = d.clauseOf(n, vars)
		switch d.below(8) {
		case 0:
			f[i] = f[i][:min(len(f[i]), 1+d.below(n))]
		case 1:
			f[i] = f[d.below(i+1)]
		}
	}
	return f
}

// vars returns n variables, small ones, or such with gaps, or the greatest ones.
func (d *dice) vars(n int) []int {
	switch d.below(4) {
	case 0:
		return variables(65537-n, 65536)
	case 1:
		l := mixed(d, variables(1, 3*n))[:n]
		slices.Sort(l)
		return l
	}
	return variables(1, n)
}

// grown returns a proof from clauses: inputs, some of them again and again, and resolvents of any lines.
func (d *dice) grown(f [][]int, n int) api.Proof {
	var lines []api.Line
	for len(lines) < n {
		at := d.below(len(f))
		l := input(at, f[at]...)
		if len(lines) > 0 {
			a, b := d.below(len(lines)), d.below(len(lines))
			for _, piv := range lines[a].Lits {
				if r, ok := naiveResolvent(lines[a].Lits, lines[b].Lits, piv); ok {
					l = resolve(a, b, piv, r...)
				}
			}
		}
		if l.Rule == api.RuResolve || d.below(4) == 0 {
			lines = append(lines, l)
		}
	}
	return proofOf(lines...)
}

// refutation returns clauses that nothing satisfies, and a proof of that.
func (d *dice) refutation(vars []int) ([][]int, api.Proof) {
	for {
		f := d.cnf(8+d.below(7*len(vars)), 2+d.below(2), vars)
		if r, _ := sat.Solve(f, nil, api.MaxBudget); r.Value == api.False {
			return f, r.Proof
		}
	}
}

// padded returns a proof with lines between the others that it does not need: others again, and resolvents of those before.
func (d *dice) padded(p api.Proof) api.Proof {
	var lines []api.Line
	at := make([]int, len(p.Lines))
	for i, l := range p.Lines {
		if l.Rule == api.RuResolve {
			l.A, l.B = at[l.A], at[l.B]
		}
		if d.below(3) == 0 {
			lines = append(lines, l)
		}
		if i > 0 && d.below(3) == 0 {
			lines = append(lines, lines[d.below(len(lines))])
		}
		at[i] = len(lines)
		lines = append(lines, l)
	}
	return proofOf(lines...)
}

// joined returns lines in order that need not be a proof: their literals and numbers of clauses are any.
func (d *dice) joined(n int) api.Proof {
	var lines []api.Line
	for i := range n {
		l := api.Line{Rule: api.RuInput, A: d.odd(), B: d.odd(), Piv: d.odd(), Lits: []int{d.odd(), d.odd()}[:d.below(3)]}
		if i > 0 && d.below(3) > 0 {
			l.Rule, l.A, l.B = api.RuResolve, d.below(i), d.below(i)
			if d.below(2) == 0 {
				l.A = max(0, i-1-d.below(3))
			}
		}
		lines = append(lines, l)
	}
	return proofOf(lines...)
}

// odd returns a small number, or one of the odd ones.
func (d *dice) odd() int {
	if d.below(3) == 0 {
		return oddInts[d.below(len(oddInts))]
	}
	return d.below(9) - 2
}

// holes returns the clauses that put so many pigeons into so many holes, one in each.
func holes(pigeons, holes int) [][]int {
	in := func(p, h int) int { return p*holes + h + 1 }
	var f [][]int
	for p := range pigeons {
		f = append(f, variables(in(p, 0), in(p, holes-1)))
	}
	for h := range holes {
		for q := range pigeons {
			for p := range q {
				f = append(f, []int{-in(p, h), -in(q, h)})
			}
		}
	}
	return f
}

// chain returns clauses by which 1 is true and makes 2 true, that makes 3 true, and so on, and a proof of the last one.
func chain(n int) ([][]int, api.Proof) {
	f := [][]int{{1}}
	lines := []api.Line{input(0, 1)}
	for v := 2; v <= n; v++ {
		f = append(f, []int{1 - v, v})
		m := len(lines)
		lines = append(lines, input(v-1, 1-v, v), resolve(m-1, m, v-1, v))
	}
	return f, proofOf(lines...)
}
