package circ

import "skolem/api"

// image returns what a literal becomes when variables become what a map says; the others stay.
func image(lit int, of map[int]int) int {
	x, ok := of[variable(lit)]
	switch {
	case !ok:
		return lit
	case lit < 0:
		return -x
	}
	return x
}

// images returns what literals become, in new memory.
func images(lits []int, of map[int]int) []int {
	var out []int
	for _, lit := range lits {
		out = append(out, image(lit, of))
	}
	return out
}

// without takes the variables of which a map says something out of a prefix.
func without(p []api.Block, gone map[int]int) []api.Block {
	var out []api.Block
	for _, b := range p {
		var left []int
		for _, v := range b.Vars {
			if _, ok := gone[v]; !ok {
				left = append(left, v)
			}
		}
		end := len(out) - 1
		switch {
		case len(left) == 0:
		case end >= 0 && out[end].Exists == b.Exists:
			out[end].Vars = append(out[end].Vars, left...)
		default:
			out = append(out, api.Block{Exists: b.Exists, Vars: left})
		}
	}
	return out
}

// unused returns the k least variables that are not in a set, ascending; fewer if there are no more.
func unused(set map[int]bool, k int) []int {
	var out []int
	for v := 1; v <= api.MaxVar && len(out) < k; v++ {
		if !set[v] {
			out = append(out, v)
		}
	}
	return out
}
