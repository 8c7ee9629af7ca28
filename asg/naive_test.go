package asg_test

import (
	"math"
	"slices"

	"skolem/api"
)

// The functions of this file follow the chapter's sentences word by word, without regard to time; the tests hold the package against them.

func isLit(x int) bool {
	return x != 0 && x >= -65536 && x <= 65536
}

func variable(x int) int {
	return max(x, -x)
}

func naiveMay(l []int) bool {
	for i, x := range l {
		if !isLit(x) || i > 0 && variable(l[i-1]) >= variable(x) {
			return false
		}
	}
	return true
}

func naiveMayCnf(f [][]int) bool {
	return len(f) <= 20000 && !slices.ContainsFunc(f, func(c []int) bool { return !naiveMay(c) }) && len(slices.Concat(f...)) <= 200000
}

func naiveValue(a []int, x int) api.Value {
	switch {
	case !naiveMay(a) || !isLit(x):
		return api.Unknown
	case slices.Contains(a, x):
		return api.True
	case slices.Contains(a, -x):
		return api.False
	}
	return api.Unknown
}

// count returns how many literals of a list have a value.
func count(a, l []int, v api.Value) int {
	n := 0
	for _, x := range l {
		if naiveValue(a, x) == v {
			n++
		}
	}
	return n
}

func naiveClause(a, c []int) api.Value {
	switch {
	case !naiveMay(a) || !naiveMay(c):
		return api.Unknown
	case count(a, c, api.True) > 0:
		return api.True
	case count(a, c, api.False) == len(c):
		return api.False
	}
	return api.Unknown
}

func naiveCube(a, c []int) api.Value {
	switch {
	case !naiveMay(a) || !naiveMay(c):
		return api.Unknown
	case count(a, c, api.False) > 0:
		return api.False
	case count(a, c, api.True) == len(c):
		return api.True
	}
	return api.Unknown
}

func naiveCnf(a []int, f [][]int) api.Value {
	if !naiveMay(a) || !naiveMayCnf(f) {
		return api.Unknown
	}
	if slices.ContainsFunc(f, func(c []int) bool { return naiveClause(a, c) == api.False }) {
		return api.False
	}
	if slices.ContainsFunc(f, func(c []int) bool { return naiveClause(a, c) != api.True }) {
		return api.Unknown
	}
	return api.True
}

func naiveUnder(a []int, f [][]int) [][]int {
	if !naiveMay(a) || !naiveMayCnf(f) {
		return nil
	}
	var out [][]int
	for _, c := range f {
		if naiveClause(a, c) == api.True {
			continue
		}
		out = append(out, slices.DeleteFunc(slices.Clone(c), func(x int) bool { return naiveValue(a, x) == api.False }))
	}
	return out
}

func naiveAgree(a, b []int) bool {
	return naiveMay(a) && naiveMay(b) && !slices.ContainsFunc(a, func(x int) bool { return slices.Contains(b, -x) })
}

// first returns the number of the first clause that is false or unit, and its open literal (0: it is false); -1: there is none.
func first(a []int, f [][]int) (int, int) {
	for i, c := range f {
		if naiveClause(a, c) == api.False {
			return i, 0
		}
		if naiveClause(a, c) == api.Unknown && count(a, c, api.Unknown) == 1 {
			return i, c[slices.IndexFunc(c, func(x int) bool { return naiveValue(a, x) == api.Unknown })]
		}
	}
	return -1, 0
}

// extended returns the assignment with one more literal.
func extended(a []int, x int) []int {
	more := append(slices.Clone(a), x)
	slices.SortFunc(more, func(x, y int) int { return variable(x) - variable(y) })
	return more
}

// naiveUnits returns the steps, the conflict, the assignment at the end, and the error.
func naiveUnits(f [][]int, a []int) ([]api.Step, int, []int, api.Errno) {
	if !naiveMay(a) || !naiveMayCnf(f) {
		return nil, -1, nil, api.ErrArg
	}
	var l []api.Step
	for {
		i, x := first(a, f)
		if i < 0 {
			return l, -1, a, api.OK
		}
		if x == 0 {
			return l, i, nil, api.OK
		}
		l = append(l, api.Step{Lit: x, Clause: i})
		a = extended(a, x)
	}
}

func naiveMayVars(vars []int) bool {
	return naiveMay(vars) && len(vars) <= 64 && !slices.ContainsFunc(vars, func(v int) bool { return v <= 0 })
}

// bit returns the bit i of n by halving.
func bit(n uint64, i int) bool {
	for range i {
		n /= 2
	}
	return n%2 == 1
}

func naivePoint(vars []int, n uint64) ([]int, api.Errno) {
	if !naiveMayVars(vars) {
		return nil, api.ErrArg
	}
	if len(vars) < 64 && n >= uint64(math.Ldexp(1, len(vars))) {
		return nil, api.ErrRange
	}
	var a []int
	for i, v := range vars {
		if bit(n, i) {
			a = append(a, v)
		} else {
			a = append(a, -v)
		}
	}
	return a, api.OK
}

func naiveNumber(vars, a []int) (uint64, api.Errno) {
	if !naiveMayVars(vars) || !naiveMay(a) {
		return 0, api.ErrArg
	}
	var of []int
	for _, x := range a {
		of = append(of, variable(x))
	}
	if !slices.Equal(of, vars) {
		return 0, api.ErrNone
	}
	n, weight := uint64(0), uint64(1)
	for _, x := range a {
		if x > 0 {
			n += weight
		}
		weight *= 2
	}
	return n, api.OK
}

// listsOf returns all lists of at most n of some integers, in any order and with repetitions.
func listsOf(n int, some ...int) [][]int {
	all := [][]int{nil}
	from := 0
	for range n {
		to := len(all)
		for _, l := range all[from:to] {
			for _, x := range some {
				all = append(all, append(slices.Clip(slices.Clone(l)), x))
			}
		}
		from = to
	}
	return all
}

// normalLists returns all normal lists of the variables.
func normalLists(vars ...int) [][]int {
	all := [][]int{nil}
	for _, v := range vars {
		for _, l := range slices.Clone(all) {
			all = append(all, append(slices.Clone(l), -v), append(slices.Clone(l), v))
		}
	}
	return all
}

// cnfsOf returns all sequences of n of some clauses.
func cnfsOf(n int, some [][]int) [][][]int {
	all := [][][]int{nil}
	for range n {
		var longer [][][]int
		for _, f := range all {
			for _, c := range some {
				longer = append(longer, append(slices.Clip(slices.Clone(f)), c))
			}
		}
		all = longer
	}
	return all
}

// oddInts are integers at the ends of what a literal and an int can be.
var oddInts = []int{math.MinInt, math.MinInt + 1, -65538, -65537, -65536, -65535, -1, 0, 1, 65535, 65536, 65537, 65538, math.MaxInt - 1, math.MaxInt}

// loose are lists that are not normal.
var loose = [][]int{{0}, {1, 0}, {0, 1}, {2, 1}, {1, 1}, {1, -1}, {-1, 1}, {-2, -2}, {1, 3, 2}, {65537}, {-65537}, {1, 65537}, {math.MinInt}, {math.MaxInt}, {1, math.MinInt}}

// looseCnfs are lists that are no CNF.
func looseCnfs() [][][]int {
	var all [][][]int
	for _, l := range loose {
		all = append(all, [][]int{l}, [][]int{{1}, l}, [][]int{{}, l, {2}})
	}
	wide := append(slices.Repeat([][]int{variables(1, 50000)}, 4), []int{1})
	return append(all, make([][]int, 20001), slices.Repeat([][]int{{1}}, 20001), wide)
}

// variables returns from, from + 1, .. to.
func variables(from, to int) []int {
	var l []int
	for v := from; v <= to; v++ {
		l = append(l, v)
	}
	return l
}

func negated(l []int) []int {
	n := slices.Clone(l)
	for i := range n {
		n[i] = -n[i]
	}
	return n
}

func sameLists(f, g [][]int) bool {
	return slices.EqualFunc(f, g, func(a, b []int) bool { return slices.Equal(a, b) })
}

// dice is a sequence of numbers that look like random ones, the same at each run.
type dice uint64

func (d *dice) below(n int) int {
	*d = *d*6364136223846793005 + 1442695040888963407
	return int(uint64(*d) >> 33 % uint64(n))
}

// list returns a normal list of at most n of the variables 1 to vars.
func (d *dice) list(n, vars int) []int {
	var l []int
	for range d.below(n + 1) {
		v := 1 + d.below(vars)
		if slices.Contains(l, v) || slices.Contains(l, -v) {
			continue
		}
		l = extended(l, v*(1-2*d.below(2)))
	}
	return l
}
