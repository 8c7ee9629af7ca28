package enc

import (
	"slices"

	"skolem/aig"
	"skolem/api"
	"skolem/circ"
	"skolem/prefix"
)

// Back returns the net of a formula: an or for each clause, and their and.
func Back(q api.Qbf) (api.Net, api.Errno) {
	if !prefix.MayQbf(q) {
		return api.Net{}, api.ErrArg
	}
	p, _ := prefix.Join(q.Prefix) // the prefix itself, in new memory
	names := unused(p, len(q.Clauses)+1)
	n := api.Net{Prefix: p, Out: names[len(q.Clauses)]}
	for i, c := range q.Clauses {
		n.Gates = append(n.Gates, api.Gate{Var: names[i], Kind: api.GateOr, In: slices.Clone(c)})
	}
	n.Gates = append(n.Gates, api.Gate{Var: n.Out, Kind: api.GateAnd, In: names[:len(q.Clauses)]})
	if !circ.May(n) { // it has a variable above MaxVar, or too many literals
		return api.Net{}, api.ErrLong
	}
	return n, api.OK
}

// unused returns the k least numbers from 1 on that are not in blocks, ascending.
func unused(p []api.Block, k int) []int {
	var out []int
	taken := prefix.Vars(p)
	for v := 1; len(out) < k; v++ {
		if _, found := slices.BinarySearch(taken, v); !found {
			out = append(out, v)
		}
	}
	return out
}

// areCnf reports whether clauses are a CNF. Without a prefix, that is all that Close calls ErrArg.
func areCnf(clauses [][]int) bool {
	_, e := prefix.Close(api.Qbf{Clauses: clauses})
	return e != api.ErrArg
}

// Matrix returns the graph of clauses, with these inputs, and its edge.
func Matrix(clauses [][]int, ins []int) (api.Aig, int, api.Errno) {
	m, e := aig.New(ins)
	if e != api.OK || !areCnf(clauses) {
		return api.Aig{}, 0, api.ErrArg
	}
	lists, e := edgesOf(m, clauses)
	if e != api.OK {
		return api.Aig{}, 0, e
	}
	var ors []int
	for _, l := range lists {
		edge, e := m.Any(l)
		if e != api.OK {
			return api.Aig{}, 0, e
		}
		ors = append(ors, edge)
	}
	edge, e := m.All(ors)
	if e != api.OK {
		return api.Aig{}, 0, e
	}
	g, images, _ := aig.Cone(m.Graph(), []int{edge}) // no error: the graph has the edge
	return g, images[0], api.OK
}

// edgesOf returns the edges of the literals of each clause; all of them are looked up before anything is made, as ErrNone comes before ErrLong.
func edgesOf(m *aig.Maker, clauses [][]int) ([][]int, api.Errno) {
	var lists [][]int
	for _, c := range clauses {
		var edges []int
		for _, lit := range c {
			edge, e := m.In(variable(lit))
			if e != api.OK {
				return nil, e
			}
			if lit < 0 {
				edge++
			}
			edges = append(edges, edge)
		}
		lists = append(lists, edges)
	}
	return lists, api.OK
}
