package prefix

import "skolem/api"

// places has the index of the block of each variable of some literals; -1: no block has it.
type places map[uint]int

// placesOf keeps only the variables that are asked for: a prefix may be much longer than a clause.
func placesOf(p []api.Block, lits []int) places {
	at := places{}
	for _, lit := range lits {
		at[magnitude(lit)] = -1
	}
	for i, v := range variables(p) {
		if v < 0 { // no literal has it, but as a uint it could be 2^63
			continue
		}
		if block, asked := at[uint(v)]; asked && block < 0 {
			at[uint(v)] = i
		}
	}
	return at
}

func (at places) of(lit int) int {
	return at[magnitude(lit)]
}

// last is Last for literals whose places are known.
func (at places) last(p []api.Block, lits []int, exists bool) int {
	greatest := -1
	for _, lit := range lits {
		if i := at.of(lit); i > greatest && p[i].Exists == exists {
			greatest = i
		}
	}
	return greatest
}

// Last returns the index of the innermost block with a quantifier that has a variable of some literals; -1: there is none.
func Last(p []api.Block, lits []int, exists bool) int {
	return placesOf(p, lits).last(p, lits, exists)
}

// Reduce returns literals of a clause without the universal ones that stand behind all its existential ones; of a cube, the other way round.
func Reduce(p []api.Block, lits []int, cube bool) []int {
	at := placesOf(p, lits)
	end := at.last(p, lits, !cube)
	// Literals behind that block all have the quantifier that leaves: one with the other quantifier would have made it a later block.
	return chosen(lits, func(lit int) bool { return at.of(lit) <= end })
}
