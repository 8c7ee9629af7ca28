package sat

import (
	"slices"

	"skolem/api"
	"skolem/lits"
)

const (
	// few is up to how many variables a question is decided without restarts. Then, from one conflict to the next, the numbers of values that the levels have, from level 0 on, become greater: the first one that differs does. For n variables there are 2^(n+1) - 1 lists of such numbers, so there are no more conflicts than that, and never more than 3^n. Each has a chain of at most n steps, and each literal of a clause is stripped once, so the lines are not too many either.
	few = 12

	// mostSteps is how many steps of chains a search makes before it gives up. Some of them are in no proof, so there may be one of MaxLines lines although there are more steps; and an answer True needs none of them.
	mostSteps = 4 * api.MaxLines
)

// ending is what a search panics with at its end.
type ending struct {
	value api.Value
	lines []api.Line // if False: a proof
}

// search is the search for a model.
type search struct {
	cnf    [][]int
	inputs []int // the numbers of the clauses, of equal ones the first one alone; the origin of an input is a place here
	names
	assume    []literal // the assumptions
	budget    int64
	conflicts int64
	watch
	trail
	order
	origins
	ground
	lesson
	pace
}

// sorted returns the numbers of the clauses in the order of lists, of equal ones the first one alone. As the search goes by it, it is the same for all orders of the clauses.
func sorted(cnf [][]int) []int {
	l := make([]int, len(cnf))
	for i := range l {
		l[i] = i
	}
	slices.SortStableFunc(l, func(i, j int) int { return lits.Compare(cnf[i], cnf[j]) })
	return slices.CompactFunc(l, func(i, j int) bool { return slices.Equal(cnf[i], cnf[j]) })
}

// newSearch returns a search that has not begun.
func newSearch(cnf [][]int, assume []int, budget int64) *search {
	all := names(lits.Vars(append(slices.Clip(cnf), assume)))
	n, inputs := len(all), sorted(cnf)
	s := &search{
		cnf: cnf, inputs: inputs, names: all, assume: all.codes(assume), budget: budget,
		watch: newWatch(), trail: newTrail(n), order: newOrder(n), origins: origins{first: len(inputs)}, ground: newGround(n), lesson: newLesson(n), pace: newPace(),
	}
	for i, at := range inputs {
		c := clause{lits: all.codes(cnf[at]), from: 2, origin: int32(i)}
		for _, x := range c.lits {
			s.scores[x.variable()]++
		}
		s.clauses = append(s.clauses, c)
	}
	for v := range n {
		s.push(v)
	}
	return s
}

// run runs the search to its end.
func (s *search) run() (end ending) {
	defer func() {
		if e, ok := recover().(ending); ok {
			end = e
		}
	}()
	s.enter()
	for {
		at := s.propagate()
		switch {
		case at != none:
			s.learn(at)
		case s.since >= s.span && len(s.names) > few:
			s.restart()
		default:
			s.decide()
		}
	}
}

// enter lets the clauses wait, and makes those of one literal true.
func (s *search) enter() {
	for at, c := range s.clauses {
		switch {
		case len(c.lits) > 1:
			s.attach(at)
		case len(c.lits) == 0 || s.values[c.lits[0]] == api.False:
			s.learn(at)
		default: // it is not true, since no two inputs are equal
			s.set(c.lits[0], at)
		}
	}
}

// decide makes the next assumption true that has no value, or chooses a variable; if all of them have values, the search is at its end.
func (s *search) decide() {
	if s.level() == 0 {
		s.settle()
	}
	for ; s.taken < len(s.assume); s.taken++ {
		x := s.assume[s.taken]
		switch s.values[x] {
		case api.False:
			s.fail(x)
		case api.Unknown:
			s.choose(x)
			return
		}
	}
	for len(s.heap) > 0 {
		x := s.likely[s.pop()]
		if s.values[x] == api.Unknown {
			s.choose(x)
			return
		}
	}
	panic(ending{value: api.True})
}

// choose begins a level with a literal.
func (s *search) choose(x literal) {
	s.openings = append(s.openings, opening{len(s.made), s.taken})
	s.set(x, none)
}

// model returns the values of all variables of the question.
func (s *search) model() []int {
	l := slices.Clone(s.names)
	for i, v := range l {
		if s.values[2*i] == api.False {
			l[i] = -v
		}
	}
	return l
}
