package sat

import "skolem/api"

// clause is a clause that the search uses; it has no literals if it has been forgotten.
type clause struct {
	lits   []literal // the first two are those for which it waits
	from   int       // where the search for another one goes on; long clauses would take too much time from the beginning on
	origin int32
	rank   int // of a clause that was learned: on how many levels its literals were; 0: it is an input
}

// waiting is a clause that waits for a literal to become false, and another literal of it; while that one is true, the clause need not be looked at.
type waiting struct {
	clause int
	other  literal
}

// watch has the clauses, and which of them wait for which literals. As long as the two literals for which a clause waits are not false, nothing follows from it.
type watch struct {
	clauses []clause
	waits   map[literal]*[]waiting
}

func newWatch() watch { return watch{waits: map[literal]*[]waiting{}} }

// wait lets a clause wait for a literal.
func (w *watch) wait(x literal, entry waiting) {
	l := w.waits[x]
	if l == nil {
		l = new([]waiting)
		w.waits[x] = l
	}
	*l = append(*l, entry)
}

// attach lets a clause wait for its first two literals.
func (w *watch) attach(at int) {
	l := w.clauses[at].lits
	w.wait(l[0], waiting{at, l[1]})
	w.wait(l[1], waiting{at, l[0]})
}

// propagate makes true what follows from clauses that have one literal left, and returns a clause that is false, or none.
func (s *search) propagate() int {
	for s.done < len(s.made) {
		x := s.made[s.done].negation()
		s.done++
		if at := s.visit(x); at != none {
			return at
		}
	}
	return none
}

// visit lets the clauses that wait for a literal, which is false now, wait for others, or follows from them; it returns a clause that is false, or none.
func (s *search) visit(x literal) int {
	list := s.waits[x]
	if list == nil {
		return none
	}
	l, kept := *list, 0
	for i, entry := range l {
		if s.values[entry.other] != api.True {
			c := &s.clauses[entry.clause]
			if len(c.lits) == 0 {
				continue
			}
			if c.lits[0] == x {
				c.lits[0], c.lits[1] = c.lits[1], x
			}
			entry.other = c.lits[0]
			value := s.values[entry.other]
			if value != api.True && s.replace(c) {
				s.wait(c.lits[1], entry)
				continue
			}
			switch value {
			case api.False:
				kept += copy(l[kept:], l[i:])
				*list = l[:kept]
				return entry.clause
			case api.Unknown:
				s.set(entry.other, entry.clause)
			}
		}
		l[kept] = entry
		kept++
	}
	*list = l[:kept]
	return none
}

// replace puts a literal that is not false in the place of the second one of a clause, which is; false: there is none.
func (s *search) replace(c *clause) bool {
	n := len(c.lits)
	for range n - 2 {
		if c.from >= n {
			c.from = 2
		}
		if s.values[c.lits[c.from]] != api.False {
			c.lits[1], c.lits[c.from] = c.lits[c.from], c.lits[1]
			return true
		}
		c.from++
	}
	return false
}
