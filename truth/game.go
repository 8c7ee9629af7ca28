package truth

import (
	"slices"

	"skolem/api"
)

// game is the game of a Qbf.
type game struct {
	vars   []int // in the order in which they get values
	exists []bool
	place  map[int]int
	broken []bool                   // which assignments leave a clause that is not satisfied
	left   func(i, values int) bool // whether the formula is true that is left when the first i variables have these values
}

// newGame returns the game of a valid Qbf, unless it is too large.
func newGame(q api.Qbf) (*game, api.Errno) {
	g := &game{}
	for _, b := range q.Prefix {
		if len(g.vars)+len(b.Vars) > api.MaxGame {
			return nil, api.ErrLong
		}
		g.vars = append(g.vars, b.Vars...)
		g.exists = append(g.exists, slices.Repeat([]bool{b.Exists}, len(b.Vars))...)
	}
	g.place = places(g.vars)
	g.broken = covered(len(g.vars), slices.Values(falsifiers(q.Clauses, g.place)))
	g.left = func(i, values int) bool {
		if i == len(g.vars) {
			return !g.broken[values]
		}
		// One value decides if it is what the player of the variable wants.
		if first := g.left(i+1, values); first == g.exists[i] {
			return first
		}
		return g.left(i+1, values|g.place[g.vars[i]])
	}
	return g, api.OK
}

// existential returns the bits of the existential variables.
func (g *game) existential() []int {
	var out []int
	for i, v := range g.vars {
		if g.exists[i] {
			out = append(out, g.place[v])
		}
	}
	return out
}

// follow adds the values of tables of the universal player to values of the existential variables.
func (g *game) follow(values int, l []api.Table) int {
	out := values
	for _, t := range l {
		if t.Bits[gather(values, each(t.On, g.place))] {
			out |= g.place[t.Var]
		}
	}
	return out
}

// fill gives a table of the universal player its bits, which depend on the tables before it.
func (g *game) fill(t *api.Table, before []api.Table) {
	at := slices.Index(g.vars, t.Var)
	for n := range assignments(each(t.On, g.place)) {
		t.Bits = append(t.Bits, g.left(at+1, g.follow(n, before)))
	}
}
