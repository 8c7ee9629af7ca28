package sat

import (
	"cmp"
	"slices"
)

// mark says what is known of a variable while a clause is learned.
type mark uint8

const (
	unmarked mark = iota
	member        // its literal is in the clause
	implied       // it is not, but follows from those of the clause
	free          // it does not
)

// lesson is a clause that is being learned.
type lesson struct {
	marks   []mark    // by variable
	marked  []int     // the variables with marks
	parts   []literal // the literals, the first one being that of the last level
	chain   []step    // how the clause comes about
	leaving []int     // variables that are resolved away at the end, if they are members then
	seen    []int64   // by level: the last conflict in whose clause it was
}

func newLesson(vars int) lesson {
	return lesson{marks: make([]mark, vars), seen: make([]int64, vars)}
}

func (l *lesson) mark(v int, m mark) {
	l.marks[v] = m
	l.marked = append(l.marked, v)
}

// clear makes room for the next clause.
func (l *lesson) clear() {
	for _, v := range l.marked {
		l.marks[v] = unmarked
	}
	l.marked, l.parts, l.chain, l.leaving = l.marked[:0], l.parts[:0], l.chain[:0], l.leaving[:0]
}

// count counts a conflict, if the budget has one left.
func (s *search) count() {
	if s.conflicts == s.budget {
		panic(ending{})
	}
	s.conflicts++
	s.since++
}

// learn makes a clause of one that is false, goes back to where all its literals but one are false, and makes that one true.
func (s *search) learn(at int) {
	s.count()
	if s.level() == 0 {
		s.refute(at) // this is the end
	}
	s.climb(at)
	rank := s.levels()
	s.shorten()
	s.retreat(s.lower())
	at = len(s.clauses)
	s.clauses = append(s.clauses, clause{lits: slices.Clone(s.parts), from: 2, origin: s.add(s.chain), rank: rank})
	if len(s.parts) > 1 {
		s.attach(at)
	}
	s.set(s.parts[0], at)
	s.clear()
	s.age()
	s.tidy()
}

// use resolves what the chain has come to with the reason of a literal, and returns the other literals of the reason.
func (s *search) use(x literal) []literal {
	c := s.strip(s.facts[x.variable()].reason)
	s.chain = append(s.chain, step{c.origin, x.negation()})
	return c.lits[1:]
}

// join makes literals members.
func (s *search) join(l []literal) {
	for _, x := range l {
		s.marks[x.variable()] = member
	}
}

// meet takes literals into the clause, and returns how many new ones of them are of the last level.
func (s *search) meet(l []literal) int {
	last := 0
	for _, x := range l {
		v := x.variable()
		if s.marks[v] != unmarked {
			continue
		}
		s.mark(v, member)
		s.reward(v)
		if s.facts[v].level == s.level() {
			last++
		} else {
			s.parts = append(s.parts, x)
		}
	}
	return last
}

// climb resolves the literals of the last level away, from the latest one on, until one of them is left.
func (s *search) climb(at int) {
	c := s.strip(at)
	s.chain = append(s.chain, step{origin: c.origin})
	s.parts = append(s.parts, 0) // the place of that one
	open := s.meet(c.lits)
	for i := len(s.made) - 1; ; i-- {
		x := s.made[i]
		if s.marks[x.variable()] == unmarked {
			continue
		}
		if open == 1 {
			s.parts[0] = x.negation()
			return
		}
		open += s.meet(s.use(x)) - 1
	}
}

// follows reports whether the reason of a variable has, beside it, literals of the clause alone, or such that follow from them.
func (s *search) follows(v int) bool {
	for _, x := range s.clauses[s.facts[v].reason].lits[1:] {
		w := x.variable()
		f := s.facts[w]
		switch {
		case f.level == 0 || s.marks[w] == member || s.marks[w] == implied:
		case f.reason == none || s.marks[w] == free || s.seen[f.level] != s.conflicts:
			return false
		case s.follows(w):
			s.mark(w, implied)
			s.leaving = append(s.leaving, w)
		default:
			s.mark(w, free)
			return false
		}
	}
	return true
}

// levels notes the levels of the clause but for the last one, and returns how many there are with it.
func (s *search) levels() int {
	n := 1
	for _, x := range s.parts[1:] {
		level := s.levelOf(x)
		if s.seen[level] != s.conflicts {
			s.seen[level] = s.conflicts
			n++
		}
	}
	return n
}

// shorten resolves literals away that follow from others of the clause.
func (s *search) shorten() {
	kept := s.parts[:1]
	for _, x := range s.parts[1:] {
		v := x.variable()
		if s.facts[v].reason != none && s.follows(v) {
			s.leaving = append(s.leaving, v)
		} else {
			kept = append(kept, x)
		}
	}
	s.parts = kept
	slices.SortFunc(s.leaving, func(v, w int) int { return cmp.Compare(s.facts[w].place, s.facts[v].place) })
	for _, v := range s.leaving {
		if s.marks[v] != member { // nothing that was resolved away has brought it in
			continue
		}
		s.join(s.use(s.made[s.facts[v].place])) // all of these have marks already
	}
}

// lower puts the literal of the latest level but the last one second, and returns that level.
func (s *search) lower() int {
	if len(s.parts) == 1 {
		return 0
	}
	for i, x := range s.parts[1:] {
		if s.levelOf(x) > s.levelOf(s.parts[1]) {
			s.parts[1], s.parts[i+1] = x, s.parts[1]
		}
	}
	return s.levelOf(s.parts[1])
}
