package sat

import "slices"

// ground has the clauses of one literal that is true at level 0.
type ground struct {
	units   []int32 // by variable: the origins
	settled int     // how many there are
	side    []step  // the chain of one of them, or of a clause that loses literals
}

func newGround(vars int) ground { return ground{units: make([]int32, vars)} }

// without returns the origin of a clause of some origin without literals that are false at level 0.
func (s *search) without(origin int32, l []literal) int32 {
	s.side = append(s.side[:0], step{origin: origin})
	for _, x := range l {
		if s.levelOf(x) == 0 {
			s.side = append(s.side, step{s.units[x.variable()], x})
		}
	}
	return s.add(s.side)
}

// settle makes the clauses of one literal for those that have become true at level 0.
func (s *search) settle() {
	for ; s.settled < len(s.made); s.settled++ {
		v := s.made[s.settled].variable()
		c := s.clauses[s.facts[v].reason]
		s.units[v] = s.without(c.origin, c.lits[1:])
	}
}

// strip takes the literals that are false at level 0 out of a clause that became false, or a reason, at a later level, so that they are resolved away once, and not at each use of it. None of them is among the first two, for which the clause waits.
func (s *search) strip(at int) *clause {
	c := &s.clauses[at]
	c.origin = s.without(c.origin, c.lits)
	c.lits = slices.DeleteFunc(c.lits, func(x literal) bool { return s.levelOf(x) == 0 })
	return c
}

// refute ends the search at a clause that is false at level 0.
func (s *search) refute(at int) {
	s.settle()
	c := s.clauses[at]
	s.prove(s.without(c.origin, c.lits))
}

// fail ends the search at an assumption that is false. So far assumptions alone have been chosen: where the reasons end are assumptions.
func (s *search) fail(x literal) {
	s.count()
	f := s.facts[x.variable()]
	if f.level == 0 {
		s.prove(s.units[x.variable()]) // this is the end
	}
	c := s.strip(f.reason)
	s.chain = append(s.chain, step{origin: c.origin})
	s.join(c.lits[1:])
	for _, y := range slices.Backward(s.made[s.openings[0].made:f.place]) {
		v := y.variable()
		if s.marks[v] == member && s.facts[v].reason != none {
			s.join(s.use(y))
		}
	}
	s.prove(s.add(s.chain))
}
