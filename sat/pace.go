package sat

import (
	"cmp"
	"math/bits"
	"slices"

	"skolem/api"
)

// pace says when the search begins anew, and when it forgets clauses that it has learned.
type pace struct {
	since    int    // conflicts since the last restart
	span     int    // how many of them there are until the next one
	restarts uint64 // how many there have been
	learned  int    // how many clauses have been learned since some were forgotten
	room     int    // how many of them there may be
}

const (
	spanUnit  = 64
	firstRoom = 2000
	moreRoom  = 300
)

func newPace() pace { return pace{span: spanUnit, room: firstRoom} }

// luby returns the element number i, from 1 on, of 1 1 2 1 1 2 4 1 1 2 1 1 2 4 8 and so on.
func luby(i uint64) int {
	for {
		k := bits.Len64(i)
		if i == 1<<k-1 {
			return 1 << (k - 1)
		}
		i -= 1<<(k-1) - 1
	}
}

// retreat takes back all levels behind one; the variables that lose their values are remembered with them, and may be chosen again.
func (s *search) retreat(level int) {
	s.back(level, func(x literal) {
		v := x.variable()
		s.likely[v] = x
		s.push(v)
	})
}

// restart begins anew, with all that has been learned.
func (s *search) restart() {
	s.restarts++
	s.since, s.span = 0, spanUnit*luby(s.restarts+1)
	s.retreat(0)
}

// isReason reports whether a clause is the reason of a value.
func (s *search) isReason(at int) bool {
	x := s.clauses[at].lits[0]
	return s.values[x] == api.True && s.facts[x.variable()].reason == at
}

// tidy forgets clauses when there are too many new ones.
func (s *search) tidy() {
	s.learned++
	if s.learned >= s.room {
		s.forget()
	}
}

// forget forgets half of the learned clauses that are no reasons, those of the most levels; clauses of two levels are kept.
func (s *search) forget() {
	var l []int
	for at, c := range s.clauses {
		if c.rank > 2 && len(c.lits) > 2 && !s.isReason(at) {
			l = append(l, at)
		}
	}
	slices.SortStableFunc(l, func(i, j int) int { return cmp.Compare(s.clauses[j].rank, s.clauses[i].rank) })
	for _, at := range l[:len(l)/2] {
		s.clauses[at].lits = nil
	}
	s.learned, s.room = 0, s.room+moreRoom
}
