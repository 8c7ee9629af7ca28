package truth_test

import (
	"slices"

	"skolem/api"
)

// The functions of this file follow the chapter's sentences word by word, without regard to time; the tests hold the package against them. They are for valid formulas only.

func all(v ...int) api.Block { return api.Block{Vars: v} }

func some(v ...int) api.Block { return api.Block{Exists: true, Vars: v} }

func row(v int, on ...int) api.Dep { return api.Dep{Var: v, On: on} }

// table returns a table whose bits are the letters of a text: 1 is true.
func table(v int, bits string, on ...int) api.Table {
	t := api.Table{Var: v, On: on}
	for _, c := range bits {
		t.Bits = append(t.Bits, c == '1')
	}
	return t
}

// satisfies reports whether an assignment contains a literal of each clause.
func satisfies(a []int, f [][]int) bool {
	return !slices.ContainsFunc(f, func(c []int) bool {
		return !slices.ContainsFunc(c, func(lit int) bool { return slices.Contains(a, lit) })
	})
}

// with returns a list with one more literal, in new memory.
func with(a []int, lit int) []int { return append(slices.Clone(a), lit) }

// assignmentsOf returns all assignments of some variables; in assignment n bit i tells whether it contains vars[i].
func assignmentsOf(vars []int) [][]int {
	out := [][]int{nil}
	for _, v := range vars {
		var low, high [][]int
		for _, a := range out {
			low, high = append(low, with(a, -v)), append(high, with(a, v))
		}
		out = slices.Concat(low, high)
	}
	return out
}

// inOrder returns the variables of a prefix, and the existential ones among them.
func inOrder(p []api.Block) (vars, exist []int) {
	for _, b := range p {
		vars = append(vars, b.Vars...)
		if b.Exists {
			exist = append(exist, b.Vars...)
		}
	}
	return vars, exist
}

// isLeft reports whether the formula is true that is left when the first variables have the values in a.
func isLeft(q api.Qbf, a []int) bool {
	vars, exist := inOrder(q.Prefix)
	if len(a) == len(vars) {
		return satisfies(a, q.Clauses)
	}
	v := vars[len(a)]
	if slices.Contains(exist, v) {
		return isLeft(q, with(a, -v)) || isLeft(q, with(a, v))
	}
	return isLeft(q, with(a, -v)) && isLeft(q, with(a, v))
}

// valueIn returns the value of a table in an assignment, as a literal.
func valueIn(t api.Table, a []int) int {
	n := 0
	for i, v := range t.On {
		if slices.Contains(a, v) {
			n += 1 << i
		}
	}
	if t.Bits[n] {
		return t.Var
	}
	return -t.Var
}

// together returns an assignment with the values of tables in it.
func together(a []int, l []api.Table) []int {
	out := slices.Clone(a)
	for _, t := range l {
		out = append(out, valueIn(t, a))
	}
	return out
}

func naiveWins(d api.Dqbf, l []api.Table) bool {
	return !slices.ContainsFunc(assignmentsOf(d.Univ), func(a []int) bool { return !satisfies(together(a, l), d.Clauses) })
}

func naiveLoses(q api.Qbf, l []api.Table) bool {
	_, exist := inOrder(q.Prefix)
	return !slices.ContainsFunc(assignmentsOf(exist), func(a []int) bool { return satisfies(together(a, l), q.Clauses) })
}

// bitLists returns all lists of n bits, in the order of tables.
func bitLists(n int) [][]bool {
	out := [][]bool{nil}
	for range n {
		var next [][]bool
		for _, l := range out {
			next = append(next, append(slices.Clone(l), false), append(slices.Clone(l), true))
		}
		out = next
	}
	return out
}

// cut returns the tables of some rows whose bits stand one behind the other in a list.
func cut(rows []api.Dep, bits []bool) []api.Table {
	var l []api.Table
	for _, r := range rows {
		n := 1 << len(r.On)
		l = append(l, api.Table{Var: r.Var, On: r.On, Bits: bits[:n]})
		bits = bits[n:]
	}
	return l
}

// bitsOf returns how many bits the tables of some rows have in all.
func bitsOf(rows []api.Dep) int {
	n := 0
	for _, r := range rows {
		n += 1 << len(r.On)
	}
	return n
}

// naiveSkolem returns the first list of tables that wins; false: none does.
func naiveSkolem(d api.Dqbf) ([]api.Table, bool) {
	for _, bits := range bitLists(bitsOf(d.Exist)) {
		if l := cut(d.Exist, bits); naiveWins(d, l) {
			return l, true
		}
	}
	return nil, false
}

// universalRows returns Var and On of the tables of the universal player.
func universalRows(p []api.Block) []api.Dep {
	var rows []api.Dep
	for i, b := range p {
		_, before := inOrder(p[:i])
		slices.Sort(before)
		for _, v := range b.Vars {
			if !b.Exists {
				rows = append(rows, row(v, before...))
			}
		}
	}
	return rows
}

// naiveHerbrand returns the tables of which the section tells.
func naiveHerbrand(q api.Qbf) []api.Table {
	var l []api.Table
	vars, _ := inOrder(q.Prefix)
	for _, r := range universalRows(q.Prefix) {
		t := api.Table{Var: r.Var, On: r.On}
		for _, a := range assignmentsOf(r.On) {
			have := together(a, l)
			var first []int
			for _, v := range vars[:slices.Index(vars, r.Var)] {
				if slices.Contains(have, v) {
					first = append(first, v)
				} else {
					first = append(first, -v)
				}
			}
			t.Bits = append(t.Bits, isLeft(q, with(first, -r.Var)))
		}
		l = append(l, t)
	}
	return l
}

// dqbfOf returns the Dqbf of a Qbf.
func dqbfOf(q api.Qbf) api.Dqbf {
	d := api.Dqbf{Clauses: q.Clauses}
	for _, b := range q.Prefix {
		for _, v := range b.Vars {
			if b.Exists {
				d.Exist = append(d.Exist, row(v, d.Univ...))
			}
		}
		if !b.Exists {
			d.Univ = append(slices.Clone(d.Univ), b.Vars...)
			slices.Sort(d.Univ)
		}
	}
	slices.SortFunc(d.Exist, func(x, y api.Dep) int { return x.Var - y.Var })
	return d
}

func valueOf(is bool) api.Value {
	if is {
		return api.True
	}
	return api.False
}

func sameTables(a, b []api.Table) bool {
	return slices.EqualFunc(a, b, func(x, y api.Table) bool {
		return x.Var == y.Var && slices.Equal(x.On, y.On) && slices.Equal(x.Bits, y.Bits)
	})
}
