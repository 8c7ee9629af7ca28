package proof

import (
	"slices"

	"skolem/api"
)

// Trim returns the lines that the last line needs.
func Trim(p api.Proof) (api.Proof, api.Errno) {
	if !inOrder(p) {
		return api.Proof{}, api.ErrArg
	}
	return trimmed(p.Lines, len(p.Lines)-1), api.OK
}

// Core returns the numbers of the clauses that the last line needs, ascending.
func Core(p api.Proof) ([]int, api.Errno) {
	if !inOrder(p) {
		return nil, api.ErrArg
	}
	var core []int
	for i, is := range needed(p.Lines, len(p.Lines)-1) {
		if is && p.Lines[i].Rule == api.RuInput {
			core = append(core, p.Lines[i].A)
		}
	}
	slices.Sort(core)
	return slices.Compact(core), api.OK
}

// inOrder reports whether the lines of a proof are in order.
func inOrder(p api.Proof) bool {
	if !plain(p) {
		return false
	}
	for i, l := range p.Lines {
		if !mayStand(l, i) {
			return false
		}
	}
	return true
}

// needed tells which of the lines up to one that line needs.
func needed(lines []api.Line, last int) []bool {
	is := make([]bool, last+1)
	is[last] = true
	for i := last; i >= 0; i-- { // what a line needs is before it
		if is[i] && lines[i].Rule == api.RuResolve {
			is[lines[i].A], is[lines[i].B] = true, true
		}
	}
	return is
}

// trimmed returns the lines that one of some needs.
func trimmed(lines []api.Line, last int) api.Proof {
	is := needed(lines, last)
	place := make([]int, len(is))
	n := 0
	for i := range is {
		place[i] = n
		if is[i] {
			n++
		}
	}
	out := make([]api.Line, 0, n)
	for i, l := range lines[:len(is)] {
		if !is[i] {
			continue
		}
		if l.Rule == api.RuResolve {
			l.A, l.B = place[l.A], place[l.B]
		}
		out = append(out, l)
	}
	return api.Proof{Lines: out}
}
