package proof

import (
	"slices"

	"skolem/api"
)

// Join returns a proof of the resolvent of what two proofs prove.
func Join(p, q api.Proof, piv int) (api.Proof, api.Errno) {
	if !inOrder(p) || !inOrder(q) || !normal(lastOf(p)) || !normal(lastOf(q)) || piv < 1 || piv > api.MaxVar {
		return api.Proof{}, api.ErrArg
	}
	if !slices.Contains(lastOf(p), piv) {
		return p, api.OK
	}
	if !slices.Contains(lastOf(q), -piv) {
		return q, api.OK
	}
	r := resolver{}
	resolvent, ok := r.resolvent(lastOf(p), lastOf(q), piv)
	if !ok {
		return api.Proof{}, api.ErrState
	}
	n, m := len(p.Lines), len(q.Lines)
	if n+m+1 > api.MaxLines {
		return api.Proof{}, api.ErrLong
	}
	lines := make([]api.Line, 0, n+m+1)
	lines = append(append(lines, p.Lines...), q.Lines...)
	for i := n; i < n+m; i++ {
		if lines[i].Rule == api.RuResolve {
			lines[i].A += n
			lines[i].B += n
		}
	}
	lines = append(lines, api.Line{Rule: api.RuResolve, A: n - 1, B: n + m - 1, Piv: piv, Lits: resolvent})
	return api.Proof{Lines: lines}, api.OK
}
