package circ

import (
	"slices"

	"skolem/api"
)

// size returns how many literals gates have in all.
func size(gates []api.Gate) int {
	total := 0
	for _, g := range gates {
		total += len(g.In)
	}
	return total
}

// renamed returns gates in which variables have become what a map says, in new memory.
func renamed(gates []api.Gate, to map[int]int) []api.Gate {
	var out []api.Gate
	for _, g := range gates {
		out = append(out, api.Gate{Var: image(g.Var, to), Kind: g.Kind, In: images(g.In, to)})
	}
	return out
}

// Compose returns the net with another net in the place of a variable of the prefix.
func Compose(n api.Net, v int, m api.Net) (api.Net, api.Errno) {
	taken, ok := named(n)
	if !ok || !May(m) {
		return api.Net{}, api.ErrArg
	}
	inputs, _ := quantified(n.Prefix)
	if !inputs[v] {
		return api.Net{}, api.ErrNone
	}
	delete(inputs, v)
	for _, b := range m.Prefix {
		if !areOf(b.Vars, inputs) {
			return api.Net{}, api.ErrRange
		}
	}
	names := unused(taken, len(m.Gates))
	if len(names) < len(m.Gates) || size(n.Gates)+size(m.Gates) > api.MaxLits {
		return api.Net{}, api.ErrLong
	}
	own := map[int]int{}
	for i, g := range m.Gates {
		own[g.Var] = names[i]
	}
	put := map[int]int{v: image(m.Out, own)}
	gates := slices.Concat(renamed(m.Gates, own), renamed(n.Gates, put))
	return api.Net{Prefix: without(n.Prefix, put), Gates: gates, Out: image(n.Out, put)}, api.OK
}
