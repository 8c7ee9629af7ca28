package proof_test

import (
	"math/big"
	"slices"

	"skolem/api"
)

// The functions of this file follow the chapter's sentences word by word, without regard to time; the tests hold the package against them.

func isLit(x int) bool { return x != 0 && x >= -65536 && x <= 65536 }

func variable(x int) int { return max(x, -x) }

func naiveMayList(l []int) bool {
	for i, x := range l {
		if !isLit(x) || i > 0 && variable(l[i-1]) >= variable(x) {
			return false
		}
	}
	return true
}

func naiveMayCnf(f [][]int) bool {
	return len(f) <= 20000 && !slices.ContainsFunc(f, func(c []int) bool { return !naiveMayList(c) }) && len(slices.Concat(f...)) <= 200000
}

// satisfies reports whether an assignment has a literal of a clause.
func satisfies(a, c []int) bool {
	return slices.ContainsFunc(c, func(x int) bool { return slices.Contains(a, x) })
}

// contains reports whether all elements of a list are in another one.
func contains(l, part []int) bool {
	return !slices.ContainsFunc(part, func(x int) bool { return !slices.Contains(l, x) })
}

func satisfiesAll(m []int, f [][]int) bool {
	return !slices.ContainsFunc(f, func(c []int) bool { return !satisfies(m, c) })
}

// without returns the elements of a list that are not in another one.
func without(l, others []int) []int {
	return slices.DeleteFunc(slices.Clone(l), func(x int) bool { return slices.Contains(others, x) })
}

// assignments returns all assignments of some variables.
func assignments(vars []int) [][]int {
	return slices.DeleteFunc(normalLists(vars...), func(a []int) bool { return len(a) < len(vars) })
}

func naiveResolvent(a, b []int, piv int) ([]int, bool) {
	if piv < 1 || piv > 65536 || !slices.Contains(a, piv) || !slices.Contains(b, -piv) {
		return nil, false
	}
	l := slices.Concat(without(a, []int{piv}), without(b, []int{-piv}))
	slices.SortFunc(l, func(x, y int) int {
		if variable(x) != variable(y) {
			return variable(x) - variable(y)
		}
		return x - y
	})
	l = slices.Compact(l)
	if !naiveMayList(l) {
		return nil, false
	}
	return l, true
}

func naiveCheck(f [][]int, p api.Proof) ([]int, int, api.Errno) {
	if !naiveMayCnf(f) {
		return nil, 0, api.ErrArg
	}
	if len(p.Lines) == 0 || len(p.Lines) > 1000000 || p.Cubes {
		return nil, 0, api.ErrProof
	}
	for i, l := range p.Lines {
		ok := false
		switch l.Rule {
		case api.RuInput:
			ok = l.A >= 0 && l.A < len(f) && l.B == 0 && l.Piv == 0 && slices.Equal(l.Lits, f[l.A])
		case api.RuResolve:
			if l.A >= 0 && l.A < i && l.B >= 0 && l.B < i {
				r, is := naiveResolvent(p.Lines[l.A].Lits, p.Lines[l.B].Lits, l.Piv)
				ok = is && slices.Equal(l.Lits, r)
			}
		}
		if !ok {
			return nil, i, api.ErrProof
		}
	}
	return p.Lines[len(p.Lines)-1].Lits, 0, api.OK
}

func naiveInOrder(p api.Proof) bool {
	if len(p.Lines) < 1 || len(p.Lines) > 1000000 || p.Cubes {
		return false
	}
	for i, l := range p.Lines {
		isBefore := func(n int) bool { return n >= 0 && n < i }
		if l.Rule != api.RuInput && (l.Rule != api.RuResolve || !isBefore(l.A) || !isBefore(l.B)) {
			return false
		}
	}
	return true
}

// needs returns the numbers of the lines that a line needs, ascending.
func needs(lines []api.Line, last int) []int {
	is := map[int]bool{}
	var enter func(n int)
	enter = func(n int) {
		if is[n] {
			return
		}
		is[n] = true
		if lines[n].Rule == api.RuResolve {
			enter(lines[n].A)
			enter(lines[n].B)
		}
	}
	enter(last)
	var l []int
	for n := range lines {
		if is[n] {
			l = append(l, n)
		}
	}
	return l
}

func naiveNeeded(lines []api.Line, last int) api.Proof {
	need := needs(lines, last)
	var out []api.Line
	for _, n := range need {
		l := lines[n]
		if l.Rule == api.RuResolve {
			l.A, l.B = slices.Index(need, l.A), slices.Index(need, l.B)
		}
		out = append(out, l)
	}
	return proofOf(out...)
}

func naiveTrim(p api.Proof) (api.Proof, api.Errno) {
	if !naiveInOrder(p) {
		return api.Proof{}, api.ErrArg
	}
	return naiveNeeded(p.Lines, len(p.Lines)-1), api.OK
}

func naiveCore(p api.Proof) ([]int, api.Errno) {
	if !naiveInOrder(p) {
		return nil, api.ErrArg
	}
	var core []int
	for _, n := range needs(p.Lines, len(p.Lines)-1) {
		if l := p.Lines[n]; l.Rule == api.RuInput && !slices.Contains(core, l.A) {
			core = append(core, l.A)
		}
	}
	slices.Sort(core)
	return core, api.OK
}

func naiveUnder(f [][]int, a []int) (clauses [][]int, from []int, e api.Errno) {
	if !naiveMayCnf(f) || !naiveMayList(a) {
		return nil, nil, api.ErrArg
	}
	for i, c := range f {
		if !satisfies(a, c) {
			clauses, from = append(clauses, without(c, negated(a))), append(from, i)
		}
	}
	return clauses, from, api.OK
}

func naiveRestrict(f [][]int, p api.Proof, a []int) (api.Proof, api.Errno) {
	clauses, from, e := naiveUnder(f, a)
	if e != api.OK {
		return api.Proof{}, e
	}
	proved, _, e := naiveCheck(f, p)
	if e != api.OK {
		return api.Proof{}, e
	}
	if satisfies(a, proved) {
		return api.Proof{}, api.ErrState
	}
	var list []api.Line
	result := map[int]int{}
	for i, l := range p.Lines {
		switch {
		case satisfies(a, l.Lits):
		case l.Rule == api.RuInput:
			n := slices.Index(from, l.A)
			list = append(list, input(n, clauses[n]...))
			result[i] = len(list) - 1
		case slices.Contains(a, l.Piv):
			result[i] = result[l.B]
		case slices.Contains(a, -l.Piv):
			result[i] = result[l.A]
		case !slices.Contains(list[result[l.A]].Lits, l.Piv):
			result[i] = result[l.A]
		case !slices.Contains(list[result[l.B]].Lits, -l.Piv):
			result[i] = result[l.B]
		default:
			r, _ := naiveResolvent(list[result[l.A]].Lits, list[result[l.B]].Lits, l.Piv)
			list = append(list, resolve(result[l.A], result[l.B], l.Piv, r...))
			result[i] = len(list) - 1
		}
	}
	return naiveNeeded(list, result[len(p.Lines)-1]), api.OK
}

func naiveLift(f [][]int, a []int, p api.Proof) (api.Proof, api.Errno) {
	clauses, from, e := naiveUnder(f, a)
	if e != api.OK {
		return api.Proof{}, e
	}
	if _, _, e := naiveCheck(clauses, p); e != api.OK {
		return api.Proof{}, api.ErrProof
	}
	var lines []api.Line
	for _, l := range p.Lines {
		if l.Rule == api.RuInput {
			lines = append(lines, input(from[l.A], f[from[l.A]]...))
			continue
		}
		r, _ := naiveResolvent(lines[l.A].Lits, lines[l.B].Lits, l.Piv)
		lines = append(lines, resolve(l.A, l.B, l.Piv, r...))
	}
	return proofOf(lines...), api.OK
}

func naiveJoin(p, q api.Proof, piv int) (api.Proof, api.Errno) {
	if !naiveInOrder(p) || !naiveInOrder(q) {
		return api.Proof{}, api.ErrArg
	}
	n, m := len(p.Lines), len(q.Lines)
	a, b := p.Lines[n-1].Lits, q.Lines[m-1].Lits
	if !naiveMayList(a) || !naiveMayList(b) || piv < 1 || piv > 65536 {
		return api.Proof{}, api.ErrArg
	}
	if !slices.Contains(a, piv) {
		return p, api.OK
	}
	if !slices.Contains(b, -piv) {
		return q, api.OK
	}
	r, ok := naiveResolvent(a, b, piv)
	if !ok {
		return api.Proof{}, api.ErrState
	}
	if n+m+1 > 1000000 {
		return api.Proof{}, api.ErrLong
	}
	lines := slices.Clone(p.Lines)
	for _, l := range q.Lines {
		if l.Rule == api.RuResolve {
			l.A, l.B = l.A+n, l.B+n
		}
		lines = append(lines, l)
	}
	return proofOf(append(lines, resolve(n-1, n+m-1, piv, r...))...), api.OK
}

// naiveNumber returns the bytes of a number; integers of any length are used.
func naiveNumber(v int) []byte {
	u := new(big.Int).Mul(big.NewInt(2), big.NewInt(int64(v)))
	if v < 0 {
		u.Neg(u)
		u.Sub(u, big.NewInt(1))
	}
	var groups []byte
	for len(groups) == 0 || u.Sign() > 0 {
		var group big.Int
		u.DivMod(u, big.NewInt(128), &group)
		groups = append(groups, byte(group.Int64()))
	}
	for i := range groups[1:] {
		groups[i] += 128
	}
	return groups
}

func naivePut(p api.Proof) ([]byte, api.Errno) {
	if len(p.Lines) > 1000000 {
		return nil, api.ErrLong
	}
	b := []byte{82, 80, 1, 0}
	if p.Cubes {
		b[3] = 1
	}
	b = append(b, naiveNumber(len(p.Lines))...)
	for _, l := range p.Lines {
		b = append(b, byte(l.Rule))
		for _, v := range append([]int{l.A, l.B, l.Piv, len(l.Lits)}, l.Lits...) {
			b = append(b, naiveNumber(v)...)
		}
	}
	return b, api.OK
}

// naiveReader reads bytes of any sort; ok: it has not come to their end, and all numbers are integers.
type naiveReader struct {
	b  []byte
	ok bool
}

func (r *naiveReader) next() byte {
	if len(r.b) == 0 {
		r.ok = false
		return 0
	}
	x := r.b[0]
	r.b = r.b[1:]
	return x
}

func (r *naiveReader) number() int {
	var groups []byte
	for {
		x := r.next()
		groups = append(groups, x%128)
		if x < 128 {
			break
		}
	}
	u := new(big.Int)
	for _, g := range slices.Backward(groups) {
		u.Mul(u, big.NewInt(128))
		u.Add(u, big.NewInt(int64(g)))
	}
	v := new(big.Int)
	if u.Bit(0) == 1 {
		v.Add(u, big.NewInt(1))
		v.Neg(v)
	} else {
		v.Set(u)
	}
	v.Quo(v, big.NewInt(2))
	r.ok = r.ok && v.IsInt64()
	return int(v.Int64())
}

// naiveGet reads a proof in any way, and returns it if the bytes are those that it has.
func naiveGet(b []byte) (api.Proof, api.Errno) {
	var p api.Proof
	r := &naiveReader{b, true}
	r.next()
	r.next()
	r.next()
	p.Cubes = r.next() == 1
	for n := r.number(); n > 0 && r.ok; n-- {
		l := api.Line{Rule: api.Rule(r.next()), A: r.number(), B: r.number(), Piv: r.number()}
		for m := r.number(); m > 0 && r.ok; m-- {
			l.Lits = append(l.Lits, r.number())
		}
		p.Lines = append(p.Lines, l)
	}
	if !r.ok {
		return api.Proof{}, api.ErrForm
	}
	if want, e := naivePut(p); e != api.OK || !slices.Equal(b, want) {
		return api.Proof{}, api.ErrForm
	}
	return p, api.OK
}

// same reports whether two proofs are equal; lists that are nil or empty are.
func same(p, q api.Proof) bool {
	return p.Cubes == q.Cubes && slices.EqualFunc(p.Lines, q.Lines, func(a, b api.Line) bool {
		return a.Rule == b.Rule && a.A == b.A && a.B == b.B && a.Piv == b.Piv && slices.Equal(a.Lits, b.Lits)
	})
}

func sameLists(f, g [][]int) bool {
	return slices.EqualFunc(f, g, func(a, b []int) bool { return slices.Equal(a, b) })
}

// isNothing reports whether a proof is zero.
func isNothing(p api.Proof) bool { return !p.Cubes && len(p.Lines) == 0 }
