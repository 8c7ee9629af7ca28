package prefix

import (
	"slices"

	"skolem/api"
)

// Join returns the prefix of any list of blocks: without empty blocks, neighbours of one quantifier put together.
func Join(p []api.Block) ([]api.Block, api.Errno) {
	set := map[int]bool{}
	for _, v := range variables(p) {
		if !enter(set, v) {
			return nil, api.ErrArg
		}
	}
	if len(set) > api.MaxQuant {
		return nil, api.ErrLong
	}
	var out []api.Block
	for _, b := range p {
		end := len(out) - 1
		switch {
		case len(b.Vars) == 0:
		case end >= 0 && out[end].Exists == b.Exists:
			out[end].Vars = append(out[end].Vars, b.Vars...)
		default:
			out = append(out, api.Block{Exists: b.Exists, Vars: slices.Clone(b.Vars)})
		}
	}
	return out, api.OK
}

// Less returns a prefix without some variables.
func Less(p []api.Block, vars []int) ([]api.Block, api.Errno) {
	stays, ok := quantified(p)
	if !ok {
		return nil, api.ErrArg
	}
	for _, v := range vars {
		delete(stays, v)
	}
	var rest []api.Block
	for _, b := range p {
		left := chosen(b.Vars, func(v int) bool { return stays[v] })
		rest = append(rest, api.Block{Exists: b.Exists, Vars: left})
	}
	return Join(rest)
}

// free returns the variables of a CNF that are not among some, ascending.
func free(f [][]int, bound map[int]bool) []int {
	var out []int
	found := map[int]bool{}
	for v := range occurring(f) {
		if !bound[v] && enter(found, v) {
			out = append(out, v)
		}
	}
	slices.Sort(out)
	return out
}

// Close returns a Qbf whose outermost block has all variables of its clauses that are not in the prefix.
func Close(q api.Qbf) (api.Qbf, api.Errno) {
	bound, ok := quantified(q.Prefix)
	if !ok || !mayCnf(q.Clauses) {
		return api.Qbf{}, api.ErrArg
	}
	at := 0
	if len(q.Prefix) > 0 && q.Prefix[0].Exists {
		at = 1
	}
	block := api.Block{Exists: true, Vars: free(q.Clauses, bound)}
	p, e := Join(slices.Concat(q.Prefix[:at], []api.Block{block}, q.Prefix[at:]))
	if e != api.OK {
		return api.Qbf{}, e
	}
	return api.Qbf{Prefix: p, Clauses: q.Clauses}, api.OK
}
