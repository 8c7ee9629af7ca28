package prefix_test

import (
	"math"
	"slices"

	"skolem/api"
)

// The functions of this file follow the chapter's sentences word by word, without regard to time; the tests hold the package against them.

func all(v ...int) api.Block { return api.Block{Vars: v} }

func some(v ...int) api.Block { return api.Block{Exists: true, Vars: v} }

// numbersOf returns the numbers in blocks, in order, as often as they are there.
func numbersOf(p []api.Block) []int {
	var l []int
	for _, b := range p {
		l = append(l, b.Vars...)
	}
	return l
}

func sorted(l []int) []int {
	s := slices.Clone(l)
	slices.Sort(s)
	return s
}

// ascends reports whether each element is greater than the one before it.
func ascends(l []int) bool {
	for i := range l {
		if i > 0 && l[i-1] >= l[i] {
			return false
		}
	}
	return true
}

func allIn(a, b []int) bool {
	return !slices.ContainsFunc(a, func(x int) bool { return !slices.Contains(b, x) })
}

// areVariables reports whether all numbers are from 1 to MaxVar, and none occurs twice.
func areVariables(l []int) bool {
	return ascends(sorted(l)) && !slices.ContainsFunc(l, func(v int) bool { return v < 1 || v > 65536 })
}

func naiveMay(p []api.Block) bool {
	for i, b := range p {
		if len(b.Vars) == 0 || i > 0 && p[i-1].Exists == b.Exists {
			return false
		}
	}
	return areVariables(numbersOf(p)) && len(numbersOf(p)) <= 1024
}

// variable returns the absolute value; false: it is 2^63.
func variable(x int) (int, bool) {
	return max(x, -x), x != math.MinInt
}

func naiveNormal(c []int) bool {
	var vars []int
	for _, x := range c {
		if x == 0 || x < -65536 || x > 65536 {
			return false
		}
		vars = append(vars, max(x, -x))
	}
	return ascends(vars)
}

func naiveMayCnf(f [][]int) bool {
	return len(f) <= 20000 && len(slices.Concat(f...)) <= 200000 && !slices.ContainsFunc(f, func(c []int) bool { return !naiveNormal(c) })
}

// clauseVars returns the variables of a CNF, ascending.
func clauseVars(f [][]int) []int {
	var l []int
	for _, x := range slices.Concat(f...) {
		l = append(l, max(x, -x))
	}
	return slices.Compact(sorted(l))
}

func naiveMayQbf(q api.Qbf) bool {
	return naiveMay(q.Prefix) && naiveMayCnf(q.Clauses) && allIn(clauseVars(q.Clauses), numbersOf(q.Prefix))
}

// existential returns the variables of the rows.
func existential(d api.Dqbf) []int {
	var l []int
	for _, row := range d.Exist {
		l = append(l, row.Var)
	}
	return l
}

func naiveMayDqbf(d api.Dqbf) bool {
	vars := slices.Concat(d.Univ, existential(d))
	for _, row := range d.Exist {
		if !ascends(row.On) || !allIn(row.On, d.Univ) {
			return false
		}
	}
	return ascends(d.Univ) && ascends(existential(d)) && areVariables(vars) && len(vars) <= 1024 && naiveMayCnf(d.Clauses) && allIn(clauseVars(d.Clauses), vars)
}

func samePrefix(a, b []api.Block) bool {
	return slices.EqualFunc(a, b, func(x, y api.Block) bool { return x.Exists == y.Exists && slices.Equal(x.Vars, y.Vars) })
}

func sameLists(f, g [][]int) bool {
	return slices.EqualFunc(f, g, func(a, b []int) bool { return slices.Equal(a, b) })
}

func sameRows(a, b []api.Dep) bool {
	return slices.EqualFunc(a, b, func(x, y api.Dep) bool { return x.Var == y.Var && slices.Equal(x.On, y.On) })
}

func sameDqbf(a, b api.Dqbf) bool {
	return slices.Equal(a.Univ, b.Univ) && sameRows(a.Exist, b.Exist) && sameLists(a.Clauses, b.Clauses)
}

// blockOf returns the index of the first block that has a number; -1: none.
func blockOf(p []api.Block, v int) int {
	return slices.IndexFunc(p, func(b api.Block) bool { return slices.Contains(b.Vars, v) })
}

// blockOfLit returns that of the variable of a literal.
func blockOfLit(p []api.Block, x int) int {
	v, ok := variable(x)
	if !ok {
		return -1
	}
	return blockOf(p, v)
}

func naiveFind(p []api.Block, v int) (int, bool, bool) {
	i := blockOf(p, v)
	if i < 0 {
		return 0, false, false
	}
	return i, p[i].Exists, true
}

func naiveOn(p []api.Block, v int) ([]int, api.Errno) {
	if !naiveMay(p) {
		return nil, api.ErrArg
	}
	at := blockOf(p, v)
	if at < 0 {
		return nil, api.ErrNone
	}
	var l []int
	for _, w := range sorted(numbersOf(p)) {
		if i := blockOf(p, w); i < at && p[i].Exists != p[at].Exists {
			l = append(l, w)
		}
	}
	return l, api.OK
}

func naiveLast(p []api.Block, l []int, exists bool) int {
	for i := len(p) - 1; i >= 0; i-- {
		if p[i].Exists == exists && slices.ContainsFunc(l, func(x int) bool { return blockOfLit(p, x) == i }) {
			return i
		}
	}
	return -1
}

func naiveReduce(p []api.Block, l []int, cube bool) []int {
	return slices.DeleteFunc(slices.Clone(l), func(x int) bool {
		i := blockOfLit(p, x)
		return i >= 0 && p[i].Exists == cube && i > naiveLast(p, l, !cube)
	})
}

func naiveJoin(p []api.Block) ([]api.Block, api.Errno) {
	if !areVariables(numbersOf(p)) {
		return nil, api.ErrArg
	}
	if len(numbersOf(p)) > 1024 {
		return nil, api.ErrLong
	}
	l := slices.DeleteFunc(slices.Clone(p), func(b api.Block) bool { return len(b.Vars) == 0 })
	for i := 1; i < len(l); i++ {
		if l[i-1].Exists == l[i].Exists {
			l[i-1].Vars = slices.Concat(l[i-1].Vars, l[i].Vars)
			l = slices.Delete(l, i, i+1)
			i--
		}
	}
	return l, api.OK
}

func naiveLess(p []api.Block, vars []int) ([]api.Block, api.Errno) {
	if !naiveMay(p) {
		return nil, api.ErrArg
	}
	l := slices.Clone(p)
	for i, b := range l {
		l[i].Vars = slices.DeleteFunc(slices.Clone(b.Vars), func(v int) bool { return slices.Contains(vars, v) })
	}
	return naiveJoin(l)
}

func naiveClose(q api.Qbf) (api.Qbf, api.Errno) {
	if !naiveMay(q.Prefix) || !naiveMayCnf(q.Clauses) {
		return api.Qbf{}, api.ErrArg
	}
	free := slices.DeleteFunc(clauseVars(q.Clauses), func(v int) bool { return blockOf(q.Prefix, v) >= 0 })
	if len(free)+len(numbersOf(q.Prefix)) > 1024 {
		return api.Qbf{}, api.ErrLong
	}
	p := slices.Clone(q.Prefix)
	switch {
	case len(free) == 0:
	case len(p) > 0 && p[0].Exists:
		p[0].Vars = slices.Concat(p[0].Vars, free)
	default:
		p = slices.Insert(p, 0, some(free...))
	}
	return api.Qbf{Prefix: p, Clauses: q.Clauses}, api.OK
}

func naiveDqbf(q api.Qbf) (api.Dqbf, api.Errno) {
	if !naiveMayQbf(q) {
		return api.Dqbf{}, api.ErrArg
	}
	d := api.Dqbf{Clauses: q.Clauses}
	for _, v := range sorted(numbersOf(q.Prefix)) {
		if q.Prefix[blockOf(q.Prefix, v)].Exists {
			on, _ := naiveOn(q.Prefix, v)
			d.Exist = append(d.Exist, api.Dep{Var: v, On: on})
		} else {
			d.Univ = append(d.Univ, v)
		}
	}
	return d, api.OK
}

func naiveDeps(d api.Dqbf, v int) ([]int, bool) {
	i := slices.Index(existential(d), v)
	if i < 0 {
		return nil, false
	}
	return d.Exist[i].On, true
}

// different returns the different On of a Dqbf, the smallest one first.
func different(d api.Dqbf) [][]int {
	var ons [][]int
	for size := 0; size <= len(d.Univ); size++ {
		for _, row := range d.Exist {
			if len(row.On) == size && !slices.ContainsFunc(ons, func(on []int) bool { return slices.Equal(on, row.On) }) {
				ons = append(ons, row.On)
			}
		}
	}
	return ons
}

func naiveLinear(d api.Dqbf) ([]api.Block, api.Errno) {
	if !naiveMayDqbf(d) {
		return nil, api.ErrArg
	}
	for _, x := range d.Exist {
		for _, y := range d.Exist {
			if !allIn(x.On, y.On) && !allIn(y.On, x.On) {
				return nil, api.ErrLinear
			}
		}
	}
	var p []api.Block
	add := func(b api.Block) {
		if len(b.Vars) > 0 {
			p = append(p, b)
		}
	}
	unused := func(l []int) []int {
		return slices.DeleteFunc(slices.Clone(l), func(v int) bool { return blockOf(p, v) >= 0 })
	}
	for _, on := range different(d) {
		var with []int
		for _, row := range d.Exist {
			if slices.Equal(row.On, on) {
				with = append(with, row.Var)
			}
		}
		add(all(unused(on)...))
		add(some(with...))
	}
	add(all(unused(d.Univ)...))
	return p, api.OK
}
