package sat_test

import (
	"slices"

	"skolem/api"
)

// The functions of this file follow the chapter's sentences word by word, without regard to time; the tests hold the package against them.

func isLit(x int) bool { return x != 0 && x >= -65536 && x <= 65536 }

func variable(x int) int { return max(x, -x) }

func naiveMayList(l []int) bool {
	for i, x := range l {
		if !isLit(x) || i > 0 && variable(l[i-1]) >= variable(x) {
			return false
		}
	}
	return true
}

func naiveMayCnf(f [][]int) bool {
	return len(f) <= 20000 && !slices.ContainsFunc(f, func(c []int) bool { return !naiveMayList(c) }) && len(slices.Concat(f...)) <= 200000
}

func naiveMay(f [][]int, a []int) bool { return naiveMayCnf(f) && naiveMayList(a) }

// variablesOf returns the variables of a question.
func variablesOf(f [][]int, a []int) []int {
	var l []int
	for _, x := range slices.Concat(append(slices.Clone(f), a)...) {
		l = append(l, variable(x))
	}
	slices.Sort(l)
	return slices.Compact(l)
}

// satisfies reports whether an assignment makes a clause true.
func satisfies(m, c []int) bool {
	return slices.ContainsFunc(c, func(x int) bool { return slices.Contains(m, x) })
}

// contains reports whether all elements of a list are in another one.
func contains(l, part []int) bool {
	return !slices.ContainsFunc(part, func(x int) bool { return !slices.Contains(l, x) })
}

func satisfiesAll(m []int, f [][]int) bool {
	return !slices.ContainsFunc(f, func(c []int) bool { return !satisfies(m, c) })
}

// isModel reports whether an assignment is a model of a question.
func isModel(m []int, f [][]int, a []int) bool {
	return naiveMayList(m) && slices.Equal(variablesOf(nil, m), variablesOf(f, a)) && satisfiesAll(m, f) && contains(m, a)
}

// assignments returns all assignments of some variables.
func assignments(vars []int) [][]int {
	all := [][]int{nil}
	for _, v := range vars {
		var longer [][]int
		for _, a := range all {
			longer = append(longer, append(slices.Clip(a), -v), append(slices.Clip(a), v))
		}
		all = longer
	}
	return all
}

// models returns all models of a question.
func models(f [][]int, a []int) [][]int {
	return slices.DeleteFunc(assignments(variablesOf(f, a)), func(m []int) bool { return !isModel(m, f, a) })
}

// naiveValue returns whether a question has a model; the variables are taken one after the other.
func naiveValue(f [][]int, a []int) api.Value {
	for _, x := range a {
		f = append(slices.Clip(f), []int{x})
	}
	if naiveSatisfiable(f) {
		return api.True
	}
	return api.False
}

func naiveSatisfiable(f [][]int) bool {
	if len(f) == 0 {
		return true
	}
	if slices.ContainsFunc(f, func(c []int) bool { return len(c) == 0 }) {
		return false
	}
	v := variable(f[0][0])
	return naiveSatisfiable(naiveUnder(f, v)) || naiveSatisfiable(naiveUnder(f, -v))
}

// naiveUnder returns the clauses that a literal does not make true, without its negation.
func naiveUnder(f [][]int, x int) [][]int {
	var out [][]int
	for _, c := range f {
		if !slices.Contains(c, x) {
			out = append(out, slices.DeleteFunc(slices.Clone(c), func(y int) bool { return y == -x }))
		}
	}
	return out
}

// isResolvent reports whether a list is what the section asks of the line of a resolution.
func isResolvent(l, a, b []int, piv int) bool {
	if piv < 1 || !slices.Contains(a, piv) || !slices.Contains(b, -piv) || !naiveMayList(l) {
		return false
	}
	others := slices.DeleteFunc(slices.Concat(a, b), func(x int) bool { return variable(x) == piv })
	return contains(l, others) && contains(others, l)
}

func naiveCheck(f [][]int, p api.Proof) ([]int, bool) {
	if !naiveMayCnf(f) || p.Cubes || len(p.Lines) == 0 || len(p.Lines) > 1000000 {
		return nil, false
	}
	for i, l := range p.Lines {
		ok := false
		switch l.Rule {
		case api.RuInput:
			ok = l.A >= 0 && l.A < len(f) && l.B == 0 && l.Piv == 0 && slices.Equal(l.Lits, f[l.A])
		case api.RuResolve:
			ok = l.A >= 0 && l.A < i && l.B >= 0 && l.B < i && isResolvent(l.Lits, p.Lines[l.A].Lits, p.Lines[l.B].Lits, l.Piv)
		}
		if !ok {
			return nil, false
		}
	}
	return p.Lines[len(p.Lines)-1].Lits, true
}

// power returns 3^n.
func power(n int) int64 {
	if n == 0 {
		return 1
	}
	return 3 * power(n-1)
}
