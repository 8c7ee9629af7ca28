package circ

import (
	"iter"
	"slices"

	"skolem/api"
)

// reached tells the variables that are reached from a literal, each once. A gate uses only gates before it, so one pass from the last gate to the first finds them all.
func reached(gates []api.Gate, lit int) iter.Seq[int] {
	return func(yield func(v int) bool) {
		seen := map[int]bool{}
		tell := func(lit int) bool {
			v := variable(lit)
			return !enter(seen, v) || yield(v)
		}
		if !tell(lit) {
			return
		}
		for _, g := range slices.Backward(gates) {
			if !seen[g.Var] {
				continue
			}
			for _, l := range g.In {
				if !tell(l) {
					return
				}
			}
		}
	}
}

// used returns the gates that are reached from a literal.
func used(gates []api.Gate, lit int) []api.Gate {
	is := map[int]bool{}
	for v := range reached(gates, lit) {
		is[v] = true
	}
	var out []api.Gate
	for _, g := range gates {
		if is[g.Var] {
			out = append(out, g)
		}
	}
	return out
}
