package sat

import "skolem/api"

// none is in the place of a clause where there is none.
const none = -1

// fact tells how a variable got its value.
type fact struct {
	level  int
	reason int // the clause that made it so, whose first literal is the true one; none: it was chosen
	place  int // where the true literal is in made
}

// opening tells how far the search was when a level began.
type opening struct {
	made, taken int
}

// trail has the values that the search has given to variables. Level 0 has those that follow from the clauses alone; each further level begins with one that was chosen.
type trail struct {
	values   []api.Value // by literal
	facts    []fact      // by variable
	made     []literal   // the true literals, in the order in which they became true
	done     int         // how many of these have been propagated
	taken    int         // how many assumptions are known to be true
	openings []opening   // of the levels from 1 on
}

func newTrail(vars int) trail {
	return trail{values: make([]api.Value, 2*vars), facts: make([]fact, vars)}
}

func (t *trail) level() int { return len(t.openings) }

// set makes a literal true.
func (t *trail) set(x literal, reason int) {
	t.values[x], t.values[x.negation()] = api.True, api.False
	t.facts[x.variable()] = fact{t.level(), reason, len(t.made)}
	t.made = append(t.made, x)
}

// levelOf returns the level at which a literal got its value.
func (t *trail) levelOf(x literal) int { return t.facts[x.variable()].level }

// back takes back all levels behind one, and hands on the literals that were true there.
func (t *trail) back(level int, unmade func(x literal)) {
	if level == t.level() {
		return
	}
	first := t.openings[level]
	for _, x := range t.made[first.made:] {
		t.values[x], t.values[x.negation()] = api.Unknown, api.Unknown
		unmade(x)
	}
	t.made, t.done, t.taken = t.made[:first.made], first.made, first.taken
	t.openings = t.openings[:level]
}
