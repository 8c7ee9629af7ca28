package proof

import (
	"slices"

	"skolem/api"
)

// variable returns the variable of a literal; 0: it is none.
func variable(lit int) int {
	if lit < -api.MaxVar || lit > api.MaxVar {
		return 0
	}
	if lit < 0 {
		return -lit
	}
	return lit
}

// normal reports whether a list of literals is normal.
func normal(l []int) bool {
	before := 0
	for _, lit := range l {
		v := variable(lit)
		if v <= before {
			return false
		}
		before = v
	}
	return true
}

// mayCnf reports whether lists are a CNF.
func mayCnf(f [][]int) bool {
	if len(f) > api.MaxClauses {
		return false
	}
	total := 0
	for _, l := range f {
		total += len(l)
		if total > api.MaxLits || !normal(l) {
			return false
		}
	}
	return true
}

// resolver makes resolvents. Each one takes the memory of the one before it, so that a check of many lines takes little.
type resolver struct{ room []int }

// resolvent returns the resolvent of two normal lists on a variable, until the next call; false: there is none.
func (r *resolver) resolvent(a, b []int, piv int) ([]int, bool) {
	if piv < 1 || !slices.Contains(a, piv) || !slices.Contains(b, -piv) {
		return nil, false
	}
	out := r.room[:0]
	for len(a) > 0 && len(b) > 0 {
		x, y := variable(a[0]), variable(b[0])
		switch {
		case x < y:
			out, a = append(out, a[0]), a[1:]
		case y < x:
			out, b = append(out, b[0]), b[1:]
		case a[0] == b[0]:
			out, a, b = append(out, a[0]), a[1:], b[1:]
		case x == piv:
			a, b = a[1:], b[1:]
		default:
			return nil, false
		}
	}
	r.room = append(append(out, a...), b...)
	return r.room, true
}

// line returns the line that resolves two of some lines, which have a resolvent.
func (r *resolver) line(lines []api.Line, a, b, piv int) api.Line {
	resolvent, _ := r.resolvent(lines[a].Lits, lines[b].Lits, piv)
	return api.Line{Rule: api.RuResolve, A: a, B: b, Piv: piv, Lits: slices.Clone(resolvent)}
}
