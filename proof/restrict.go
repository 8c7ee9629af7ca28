package proof

import (
	"slices"

	"skolem/api"
)

// Under returns the clauses that an assignment does not satisfy, without their false literals, and the number that each one had.
func Under(cnf [][]int, a []int) (clauses [][]int, from []int, e api.Errno) {
	if !mayCnf(cnf) || !normal(a) {
		return nil, nil, api.ErrArg
	}
	under := assignmentOf(a)
	for i, l := range cnf {
		if !under.satisfies(l) {
			clauses, from = append(clauses, under.rest(l)), append(from, i)
		}
	}
	return clauses, from, api.OK
}

// Restrict returns a proof from the clauses under an assignment.
func Restrict(cnf [][]int, p api.Proof, a []int) (api.Proof, api.Errno) {
	clauses, from, e := Under(cnf, a)
	if e != api.OK {
		return api.Proof{}, e
	}
	proved, _, e := Check(cnf, p)
	if e != api.OK {
		return api.Proof{}, e
	}
	under := assignmentOf(a)
	if under.satisfies(proved) {
		return api.Proof{}, api.ErrState
	}
	r := restriction{under: under, clauses: clauses, number: make([]int, len(cnf)), result: make([]int, len(p.Lines))}
	for i, at := range from {
		r.number[at] = i
	}
	for i, l := range p.Lines {
		if !under.satisfies(l.Lits) {
			r.result[i] = r.resultOf(l)
		}
	}
	return trimmed(r.lines, r.result[len(p.Lines)-1]), api.OK
}

// restriction makes the lines of a proof under an assignment.
type restriction struct {
	under   assignment
	clauses [][]int // those under the assignment
	number  []int   // by clause that is not satisfied: its number among them
	lines   []api.Line
	result  []int // by line of the proof that is not satisfied: the line that is its result
	resolver
}

// resultOf returns the result of a line that is not satisfied. The results that it uses are there: of both lines that it resolves, or where the assignment has piv, of the one that it does not satisfy.
func (r *restriction) resultOf(l api.Line) int {
	if l.Rule == api.RuInput {
		n := r.number[l.A]
		return r.put(api.Line{Rule: api.RuInput, A: n, Lits: slices.Clone(r.clauses[n])})
	}
	a, b := r.result[l.A], r.result[l.B]
	switch r.under.of(l.Piv) {
	case l.Piv:
		return b
	case -l.Piv:
		return a
	}
	if !slices.Contains(r.lines[a].Lits, l.Piv) {
		return a
	}
	if !slices.Contains(r.lines[b].Lits, -l.Piv) {
		return b
	}
	return r.put(r.line(r.lines, a, b, l.Piv)) // they are parts of lines that have a resolvent, so they have one
}

// put adds a line, and returns its number.
func (r *restriction) put(l api.Line) int {
	r.lines = append(r.lines, l)
	return len(r.lines) - 1
}

// Lift returns a proof from clauses, made of a proof from the clauses under an assignment.
func Lift(cnf [][]int, a []int, p api.Proof) (api.Proof, api.Errno) {
	clauses, from, e := Under(cnf, a)
	if e != api.OK {
		return api.Proof{}, e
	}
	if _, _, e := Check(clauses, p); e != api.OK {
		return api.Proof{}, e
	}
	r := &resolver{}
	lines := make([]api.Line, len(p.Lines))
	for i, l := range p.Lines {
		if l.Rule == api.RuInput {
			at := from[l.A]
			lines[i] = api.Line{Rule: api.RuInput, A: at, Lits: slices.Clone(cnf[at])}
		} else {
			lines[i] = r.line(lines, l.A, l.B, l.Piv) // they have one, as both gain negations of a's literals alone, of whose variables they had none
		}
	}
	return api.Proof{Lines: lines}, api.OK
}
