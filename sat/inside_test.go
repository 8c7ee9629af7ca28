package sat

import (
	"slices"
	"testing"

	"skolem/api"
)

// What no answer shows, as the search would only be longer without it: that the parts of the search keep their promises to one another.

// numbers are numbers that look like random ones, the same at each run.
type numbers uint64

func (n *numbers) below(k int) int {
	*n = *n*6364136223846793005 + 1442695040888963407
	return int(uint64(*n) >> 33 % uint64(k))
}

// threes returns clauses of three of some variables each.
func (n *numbers) threes(clauses, vars int) [][]int {
	f := make([][]int, clauses)
	for i := range f {
		for len(f[i]) < 3 {
			v := 1 + n.below(vars)
			if !slices.Contains(f[i], v) {
				f[i] = append(f[i], v)
			}
		}
		slices.Sort(f[i])
		for j := range f[i] {
			f[i][j] *= 1 - 2*n.below(2)
		}
	}
	return f
}

func TestLuby(t *testing.T) {
	for i, want := range []int{1, 1, 2, 1, 1, 2, 4, 1, 1, 2, 1, 1, 2, 4, 8, 1, 1, 2, 1, 1, 2, 4, 1, 1, 2, 1, 1, 2, 4, 8, 16, 1} {
		if got := luby(uint64(i + 1)); got != want {
			t.Errorf("number %d: %d", i+1, got)
		}
	}
}

// wellOrdered reports whether a heap has no variable above one with a greater score, and knows the places of all.
func wellOrdered(o *order) bool {
	for i, v := range o.heap {
		if o.at[v] != i || i > 0 && o.scores[o.heap[(i-1)/2]] < o.scores[v] {
			return false
		}
	}
	there := 0
	for v, i := range o.at {
		if i != none {
			there++
		}
		if i != none && o.heap[i] != v {
			return false
		}
	}
	return there == len(o.heap)
}

func TestOrder(t *testing.T) {
	n := numbers(1)
	o := newOrder(50)
	rescaled := false
	for i := range 40000 {
		before := o.bonus
		switch v := n.below(50); n.below(5) {
		case 0:
			o.push(v)
		case 1:
			if len(o.heap) > 0 {
				top := o.pop()
				if slices.ContainsFunc(o.heap, func(v int) bool { return o.scores[v] > o.scores[top] }) || o.at[top] != none {
					t.Fatalf("call %d: %d is taken out first", i, top)
				}
			}
		case 2:
			o.age()
			rescaled = rescaled || o.bonus < before
		default:
			score := o.scores[v]
			o.reward(v)
			if o.scores[v] != score+o.bonus || o.scores[v] < score {
				t.Fatalf("call %d: the score %d becomes %d", i, score, o.scores[v])
			}
		}
		if !wellOrdered(&o) {
			t.Fatalf("call %d: %v, %v", i, o.heap, o.scores)
		}
	}
	if !rescaled {
		t.Error("the scores are never made smaller")
	}
}

// TestAge: what is rewarded later comes to count for more than what was rewarded often.
func TestAge(t *testing.T) {
	o := newOrder(2)
	o.push(0)
	o.push(1)
	for range 50 {
		o.reward(0)
	}
	for range 100 {
		o.age()
	}
	o.reward(1)
	if o.pop() != 1 {
		t.Error("the first rewards count for more")
	}
}

// valued counts the literals of a clause with a value.
func (s *search) valued(l []literal, v api.Value) int {
	n := 0
	for _, x := range l {
		if s.values[x] == v {
			n++
		}
	}
	return n
}

// wrong tells what is not as it must be between two choices.
func (s *search) wrong() string {
	for at, c := range s.clauses {
		if len(c.lits) < 2 {
			continue
		}
		for _, x := range c.lits[:2] {
			l := s.waits[x]
			if l == nil || !slices.ContainsFunc(*l, func(w waiting) bool { return w.clause == at }) {
				return "a clause does not wait for its first two literals"
			}
		}
		if s.valued(c.lits, api.True) == 0 && s.valued(c.lits, api.False) > len(c.lits)-2 {
			return "a clause is false or has one literal left"
		}
		if s.valued(c.lits[:2], api.False) > 0 && s.valued(c.lits, api.True) == 0 {
			return "a clause waits for a literal that is false"
		}
	}
	for i, x := range s.made {
		f := s.facts[x.variable()]
		if f.place != i || s.values[x] != api.True || s.values[x.negation()] != api.False {
			return "a value is not where it should be"
		}
		if f.reason == none {
			if s.openings[f.level-1].made != i {
				return "a value that was chosen does not begin its level"
			}
			continue
		}
		l := s.clauses[f.reason].lits
		if len(l) == 0 || l[0] != x || s.valued(l, api.False) != len(l)-1 {
			return "a reason is none"
		}
	}
	for v, m := range s.marks {
		if m != unmarked {
			return "a mark is left"
		}
		if s.values[2*v] == api.Unknown && s.at[v] == none {
			return "a variable without a value is not in the heap"
		}
	}
	return ""
}

// goOn runs a search to its end as run does, once it has begun, and looks at it before each choice.
func (s *search) goOn(t *testing.T) (end ending) {
	defer func() { end, _ = recover().(ending) }()
	for {
		at := s.propagate()
		switch {
		case at != none:
			s.learn(at)
		case s.since >= s.span:
			s.restart()
			if s.level() != 0 || s.since != 0 || s.span < spanUnit {
				t.Errorf("a restart to level %d, with %d conflicts of %d", s.level(), s.since, s.span)
			}
		default:
			if w := s.wrong(); w != "" {
				t.Fatal(w)
			}
			s.decide()
		}
	}
}

// TestSearch: the clauses, the values and the heap fit together all along, even where clauses are forgotten early.
func TestSearch(t *testing.T) {
	n := numbers(2)
	forgotten, restarts := 0, 0
	for i := range 10 {
		f := n.threes(560, 130)
		s := newSearch(f, []int{1, 2, -110}, api.MaxBudget)
		s.room = 5 + 10*i
		s.enter()
		end := s.goOn(t)
		if end.value == api.Unknown {
			t.Errorf("no answer after %d conflicts", s.conflicts)
		}
		if _, ok := Check(f, api.Proof{Lines: end.lines}); ok != (end.value == api.False) {
			t.Errorf("%d, %d lines", end.value, len(end.lines))
		}
		for _, c := range s.clauses {
			if len(c.lits) == 0 {
				forgotten++
			}
			if len(c.lits) == 0 && c.rank <= 2 {
				t.Error("a clause of two levels, or an input, is forgotten")
			}
		}
		restarts += int(s.restarts)
	}
	if forgotten < 100 || restarts < 20 {
		t.Errorf("%d clauses are forgotten, %d restarts", forgotten, restarts)
	}
}

// conflict returns a search at its first conflict, and the clause that is false.
func conflict(f [][]int, assume ...int) (s *search, at int) {
	s = newSearch(f, assume, api.MaxBudget)
	s.enter()
	for at = s.propagate(); at == none; at = s.propagate() {
		s.decide()
	}
	return s, at
}

// TestShorten: a literal that follows from others is resolved away, also if it does so by way of variables that are not in the clause.
func TestShorten(t *testing.T) {
	// 1 makes 2 true, that 3, and that 4. Then 5 makes 6 true because of 4, and false because of 1.
	s, at := conflict([][]int{{-4, -5, 6}, {-3, 4}, {-2, 3}, {-1, 2}, {-1, -5, -6}}, 1, 5)
	s.learn(at)
	c := s.clauses[len(s.clauses)-1]
	if !slices.Equal(c.lits, s.codes([]int{-5, -1})) || c.rank != 2 || s.level() != 1 || s.values[s.code(-5)] != api.True {
		t.Errorf("%v of rank %d, at level %d", c.lits, c.rank, s.level())
	}
	// The same, but 4 also needs 8, which has a level of its own.
	s, at = conflict([][]int{{-4, -5, 6}, {-3, 4, -8}, {-2, 3}, {-1, 2}, {-1, -5, -6}}, 1, 8, 5)
	s.learn(at)
	c = s.clauses[len(s.clauses)-1]
	if !slices.Equal(c.lits, s.codes([]int{-5, -4, -1})) || c.rank != 3 || s.level() != 2 {
		t.Errorf("%v of rank %d, at level %d", c.lits, c.rank, s.level())
	}
}

// TestStrip: what is false at level 0 leaves a clause when that is used, and is not in what is learned.
func TestStrip(t *testing.T) {
	s, at := conflict([][]int{{-7}, {7, 8}, {-1, -5, 6, 7, -8}, {-1, -5, -6, -8}}, 1, 5)
	s.learn(at)
	want := [][]int{{-5, -1}, {-1, -5, 6}, {-1, -5, -6}}
	found := 0
	for _, c := range s.clauses {
		l := slices.Clone(c.lits)
		slices.Sort(l)
		for _, w := range want {
			other := s.codes(w)
			slices.Sort(other)
			if slices.Equal(l, other) {
				found++
			}
		}
	}
	if found != 3 {
		t.Errorf("%v", s.clauses)
	}
	if end := s.goOn(t); end.value != api.False || len(end.lines) != 9 { // 7 is resolved away once, 8 twice
		t.Errorf("%d, %v", end.value, end.lines)
	}
}
