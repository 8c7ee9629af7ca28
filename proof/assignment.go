package proof

import "slices"

// assignment has the literals of an assignment by their variables; 0 is none.
type assignment []int

// assignmentOf returns the assignment of the literals of a normal list.
func assignmentOf(a []int) assignment {
	if len(a) == 0 {
		return nil
	}
	at := make(assignment, variable(a[len(a)-1])+1)
	for _, lit := range a {
		at[variable(lit)] = lit
	}
	return at
}

// of returns the literal of a variable; 0: none.
func (a assignment) of(v int) int {
	if v < len(a) {
		return a[v]
	}
	return 0
}

// satisfies reports whether a normal list has a literal of the assignment.
func (a assignment) satisfies(l []int) bool {
	return slices.ContainsFunc(l, func(lit int) bool { return a.of(variable(lit)) == lit })
}

// rest returns a normal list without the negations of the assignment's literals.
func (a assignment) rest(l []int) []int {
	var out []int
	for _, lit := range l {
		if a.of(variable(lit)) != -lit {
			out = append(out, lit)
		}
	}
	return out
}
