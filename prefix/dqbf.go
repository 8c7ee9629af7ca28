package prefix

import (
	"cmp"
	"slices"

	"skolem/api"
)

// Dqbf returns the Dqbf of a Qbf.
func Dqbf(q api.Qbf) (api.Dqbf, api.Errno) {
	if !MayQbf(q) {
		return api.Dqbf{}, api.ErrArg
	}
	d := api.Dqbf{Clauses: q.Clauses}
	for _, b := range q.Prefix {
		if !b.Exists {
			d.Univ = append(d.Univ, b.Vars...)
			slices.Sort(d.Univ)
			continue
		}
		for _, v := range b.Vars {
			d.Exist = append(d.Exist, api.Dep{Var: v, On: slices.Clone(d.Univ)})
		}
	}
	slices.SortFunc(d.Exist, func(x, y api.Dep) int { return cmp.Compare(x.Var, y.Var) })
	return d, api.OK
}

// Deps returns the variables on which an existential variable may depend; false: there is no such one.
func Deps(d api.Dqbf, v int) ([]int, bool) {
	for _, row := range d.Exist {
		if row.Var == v {
			return slices.Clone(row.On), true
		}
	}
	return nil, false
}

// without returns the elements of a list that are not in another one, which ascends.
func without(a, b []int) []int {
	return chosen(a, func(x int) bool {
		_, found := slices.BinarySearch(b, x)
		return !found
	})
}

// Linear returns a prefix whose dependencies are those of a Dqbf.
func Linear(d api.Dqbf) ([]api.Block, api.Errno) {
	if !MayDqbf(d) {
		return nil, api.ErrArg
	}
	rows := slices.Clone(d.Exist)
	slices.SortStableFunc(rows, func(x, y api.Dep) int { return cmp.Compare(len(x.On), len(y.On)) })
	var p []api.Block
	var before []int
	for _, row := range rows {
		if !isPart(before, row.On) {
			return nil, api.ErrLinear
		}
		p = append(p, api.Block{Vars: without(row.On, before)}, api.Block{Exists: true, Vars: []int{row.Var}})
		before = row.On
	}
	p = append(p, api.Block{Vars: without(d.Univ, before)})
	return Join(p)
}
