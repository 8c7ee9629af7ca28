package sat

import (
	"slices"

	"skolem/api"
	"skolem/lits"
)

// mostLits is how many literals the lines of a proof have at most: more of them take more bytes than a call may return.
const mostLits = (1<<31 - 1) / 8

// needed tells which origins one needs, itself among them, and how many lines they take.
func (o *origins) needed(last int32) (is []bool, lines int) {
	is = make([]bool, last+1)
	is[last] = true
	for i := len(is) - 1; i >= 0; i-- {
		switch {
		case !is[i]:
		case i < o.first:
			lines++
		default:
			chain := o.chainOf(i)
			lines += len(chain) - 1
			for _, st := range chain {
				is[st.origin] = true
			}
		}
	}
	return is, lines
}

// proof is a proof that is being written.
type proof struct {
	lines []api.Line
	at    []int // by origin: the number of the line that has its clause
	size  int   // how many literals the lines have
}

// put adds a line, and returns its number.
func (p *proof) put(l api.Line) int {
	p.size += len(l.Lits)
	if p.size > mostLits {
		panic(ending{})
	}
	p.lines = append(p.lines, l)
	return len(p.lines) - 1
}

// follow adds the lines of a chain, and returns the number of the last one.
func (p *proof) follow(chain []step, of names) int {
	line := p.at[chain[0].origin]
	for _, st := range chain[1:] {
		a, b, v := line, p.at[st.origin], of[st.on.variable()]
		if st.on.isNegative() {
			a, b = b, a
		}
		l, _ := lits.Resolve(p.lines[a].Lits, p.lines[b].Lits, v) // no error: it exists, as all the other literals of both were false
		line = p.put(api.Line{Rule: api.RuResolve, A: a, B: b, Piv: v, Lits: l})
	}
	return line
}

// prove ends the search with a proof of the clause of an origin, if that is not too long.
func (s *search) prove(last int32) {
	is, n := s.needed(last)
	if n > api.MaxLines {
		panic(ending{})
	}
	p := proof{lines: make([]api.Line, 0, n), at: make([]int, len(is))}
	for i, yes := range is {
		switch {
		case !yes:
		case i < s.first:
			at := s.inputs[i]
			p.at[i] = p.put(api.Line{Rule: api.RuInput, A: at, Lits: slices.Clone(s.cnf[at])})
		default:
			p.at[i] = p.follow(s.chainOf(i), s.names)
		}
	}
	panic(ending{api.False, p.lines})
}
