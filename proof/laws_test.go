package proof_test

import (
	"slices"
	"testing"

	"skolem/api"
	"skolem/proof"
	"skolem/sat"
)

// P10.4

// proves holds lines to be a proof, and returns the clause that they prove.
func proves(t *testing.T, what string, f [][]int, p api.Proof) []int {
	t.Helper()
	l, line, e := proof.Check(f, p)
	if line != 0 || e != api.OK {
		t.Errorf("%s: %v is no proof from %v: %d, %v", what, p, f, line, e)
	}
	return l
}

// someProof returns clauses of some variables and a proof from them: of the empty clause, or any.
func (d *dice) someProof(vars []int) ([][]int, api.Proof) {
	if d.below(2) == 0 {
		f, p := d.refutation(vars)
		return f, d.padded(p)
	}
	f := d.cnf(9, 3, vars)
	return f, d.grown(f, 1+d.below(30))
}

// TestProvedHolds: what is proved holds in each assignment that satisfies the clauses, whatever lines prove it.
func TestProvedHolds(t *testing.T) {
	d := dice(111)
	held := 0
	for range 300 {
		f := d.cnf(6, 3, variables(1, 5))
		models := slices.DeleteFunc(assignments(variables(1, 5)), func(m []int) bool { return !satisfiesAll(m, f) })
		lines := d.grown(f, 20).Lines
		for range 200 {
			l := resolve(d.below(len(lines)), d.below(len(lines)), 1+d.below(5), d.clauseOf(d.below(4), variables(1, 5))...)
			if _, _, e := proof.Check(f, proofOf(append(slices.Clip(lines), l)...)); e == api.OK {
				lines = append(lines, l)
			}
		}
		for n := range lines {
			l := proves(t, "a beginning", f, proofOf(lines[:n+1]...))
			if slices.ContainsFunc(models, func(m []int) bool { return !satisfies(m, l) }) {
				t.Errorf("%v: %v is proved", f, l)
			}
			held += len(models)
		}
	}
	if held < 10000 {
		t.Errorf("%d lines and models", held)
	}
}

// TestTrimmed: Trim of a proof proves the same clause by the same clauses; none of its lines can be left out, since a later one uses it.
func TestTrimmed(t *testing.T) {
	d := dice(112)
	shorter := 0
	for range 500 {
		f, p := d.someProof(d.vars(7))
		q, e := proof.Trim(p)
		clause := proves(t, "p", f, p)
		if e != api.OK || !slices.Equal(proves(t, "Trim", f, q), clause) {
			t.Errorf("Trim(%v) = %v, %v, which proves another clause", p, q, e)
		}
		if again, e := proof.Trim(q); !same(again, q) || e != api.OK {
			t.Errorf("Trim(%v) = %v, %v", q, again, e)
		}
		for n := range len(q.Lines) - 1 {
			if !slices.ContainsFunc(q.Lines[n+1:], func(l api.Line) bool { return l.Rule == api.RuResolve && (l.A == n || l.B == n) }) {
				t.Errorf("nothing needs line %d of %v", n, q)
			}
		}
		core, e := proof.Core(p)
		same, err := proof.Core(q)
		if !slices.Equal(core, same) || e != api.OK || err != api.OK {
			t.Errorf("Core(%v) = %v, and that of its Trim is %v", p, core, same)
		}
		alone(t, f, q, core, clause)
		if len(q.Lines) < len(p.Lines) {
			shorter++
		}
	}
	if shorter < 200 {
		t.Errorf("%d are shorter", shorter)
	}
}

// alone holds the clauses of a core to be enough: the proof is one from them alone.
func alone(t *testing.T, f [][]int, p api.Proof, core, clause []int) {
	t.Helper()
	var g [][]int
	for _, n := range core {
		g = append(g, f[n])
	}
	lines := slices.Clone(p.Lines)
	for i, l := range lines {
		if l.Rule == api.RuInput {
			lines[i].A = slices.Index(core, l.A)
		}
	}
	if l := proves(t, "the core alone", g, proofOf(lines...)); !slices.Equal(l, clause) {
		t.Errorf("%v proves %v, not %v", lines, l, clause)
	}
}

// TestRestricted: Restrict makes a proof from the clauses under the assignment of a part of the clause, and Lift one from the CNF of that and of negations; Restrict of what Lift returns is the same again.
func TestRestricted(t *testing.T) {
	d := dice(113)
	part, gained := 0, 0
	for range 1000 {
		vars := d.vars(7)
		f, p := d.someProof(vars)
		a := d.clauseOf(d.below(5), vars)
		q, e := proof.Restrict(f, p, a)
		if e != api.OK {
			continue
		}
		clauses, _, _ := proof.Under(f, a)
		whole, less := proves(t, "p", f, p), proves(t, "Restrict", clauses, q)
		if !contains(without(whole, negated(a)), less) {
			t.Errorf("under %v: %v proves %v, not a part of %v", a, q, less, whole)
		}
		back, e := proof.Lift(f, a, q)
		again := proves(t, "Lift", f, back)
		if e != api.OK || len(back.Lines) != len(q.Lines) || !slices.Equal(without(again, negated(a)), less) {
			t.Errorf("under %v: Lift(%v) = %v, %v", a, q, back, e)
		}
		for i, l := range back.Lines {
			if m := q.Lines[i]; l.Rule != m.Rule || l.Piv != m.Piv || l.Rule == api.RuResolve && (l.A != m.A || l.B != m.B) || !slices.Equal(without(l.Lits, negated(a)), m.Lits) {
				t.Errorf("under %v: %v is lifted to %v", a, m, l)
			}
		}
		if same1, e := proof.Restrict(f, back, a); !same(same1, q) || e != api.OK {
			t.Errorf("under %v: %v is restricted to %v, %v, not %v", a, back, same1, e, q)
		}
		if len(less) < len(without(whole, negated(a))) {
			part++
		}
		if len(again) > len(less) {
			gained++
		}
	}
	if part < 20 || gained < 200 {
		t.Errorf("%d prove a smaller part, %d gain literals", part, gained)
	}
}

// TestLiftedAnyProof: Restrict of what Lift makes of any proof is its Trim.
func TestLiftedAnyProof(t *testing.T) {
	d := dice(114)
	for range 1000 {
		vars := d.vars(6)
		f, a := d.cnf(9, 3, vars), d.clauseOf(d.below(4), vars)
		clauses, _, _ := proof.Under(f, a)
		if len(clauses) == 0 {
			continue
		}
		p := d.grown(clauses, 1+d.below(20))
		back, e := proof.Lift(f, a, p)
		q, err := proof.Restrict(f, back, a)
		if want, _ := proof.Trim(p); !same(q, want) || e != api.OK || err != api.OK {
			t.Errorf("under %v: %v, lifted to %v, %v, restricted to %v, %v", a, p, back, e, q, err)
		}
		if l := proves(t, "Lift", f, back); !contains(append(slices.Clip(negated(a)), p.Lines[len(p.Lines)-1].Lits...), l) {
			t.Errorf("under %v: %v is lifted to %v", a, p, back)
		}
	}
}

// TestSplit: a refutation under a variable and one under its negation, lifted and joined, are a refutation.
func TestSplit(t *testing.T) {
	d := dice(115)
	joined := 0
	split := func(f [][]int, p api.Proof, v int) {
		t.Helper()
		var lifted [2]api.Proof
		for i, a := range [][]int{{-v}, {v}} {
			q, e := proof.Restrict(f, p, a)
			if e != api.OK {
				t.Fatalf("under %v: %v", a, e)
			}
			lifted[i], e = proof.Lift(f, a, q)
			if l := proves(t, "Lift", f, lifted[i]); e != api.OK || len(l) > 0 && !slices.Equal(l, negated(a)) {
				t.Errorf("under %v: %v, %v", a, l, e)
			}
		}
		j, e := proof.Join(lifted[0], lifted[1], v)
		if e != api.OK || !proof.Refutes(f, j) {
			t.Errorf("on %d: %v, %v", v, j, e)
		}
		if len(j.Lines) > max(len(lifted[0].Lines), len(lifted[1].Lines)) {
			joined++
		}
	}
	for range 200 {
		vars := d.vars(7)
		f, p := d.refutation(vars)
		for _, v := range vars {
			split(f, p, v)
		}
	}
	f := holes(6, 5)
	r, _ := sat.Solve(f, nil, api.MaxBudget)
	for _, v := range []int{1, 7, 30, 31, 65536} {
		split(f, r.Proof, v)
	}
	if joined < 100 {
		t.Errorf("%d are joined", joined)
	}
}

// TestJoined: Join of proofs from a CNF is one from it, of the resolvent or of what lacks the variable.
func TestJoined(t *testing.T) {
	d := dice(116)
	seen := map[api.Errno]int{}
	for range 3000 {
		f := d.cnf(8, 3, variables(1, 5))
		p, q, piv := d.grown(f, 1+d.below(6)), d.grown(f, 1+d.below(6)), 1+d.below(5)
		j, e := proof.Join(p, q, piv)
		seen[e]++
		if e != api.OK {
			continue
		}
		a, b, l := proves(t, "p", f, p), proves(t, "q", f, q), proves(t, "Join", f, j)
		switch {
		case !slices.Contains(a, piv):
			if !same(j, p) {
				t.Errorf("%v does not contain %d, but: %v", a, piv, j)
			}
		case !slices.Contains(b, -piv):
			if !same(j, q) {
				t.Errorf("%v does not contain %d, but: %v", b, -piv, j)
			}
		default:
			if want, _ := naiveResolvent(a, b, piv); !slices.Equal(l, want) {
				t.Errorf("%v and %v on %d: %v", a, b, piv, l)
			}
			seen[-1]++
		}
	}
	if seen[-1] < 100 || seen[api.ErrState] < 20 || seen[api.ErrArg]+seen[api.ErrLong] > 0 {
		t.Errorf("%v", seen)
	}
}

// TestBytesOfProofs: Get of what Put returns is the proof, with the same clause; different proofs have different bytes.
func TestBytesOfProofs(t *testing.T) {
	d := dice(117)
	for range 300 {
		f, p := d.someProof(d.vars(7))
		b := put(t, p)
		q, _ := proof.Get(b)
		if !slices.Equal(proves(t, "p", f, p), proves(t, "Get", f, q)) {
			t.Errorf("%v is read as %v", p, q)
		}
		changed := d.change(p)
		if other := put(t, changed); slices.Equal(other, b) != same(p, changed) {
			t.Errorf("%v and %v: %v and %v", p, changed, b, other)
		}
	}
}

// TestAgain: equal calls return equal results.
func TestAgain(t *testing.T) {
	d := dice(118)
	type result struct {
		clause, core, from []int
		clauses            [][]int
		trim, part, back   api.Proof
		join               api.Proof
		bytes              []byte
		e                  [8]api.Errno
	}
	call := func(f [][]int, p api.Proof, a []int) (r result) {
		r.clause, _, r.e[0] = proof.Check(f, p)
		r.trim, r.e[1] = proof.Trim(p)
		r.core, r.e[2] = proof.Core(p)
		r.clauses, r.from, r.e[3] = proof.Under(f, a)
		r.part, r.e[4] = proof.Restrict(f, p, a)
		r.back, r.e[5] = proof.Lift(f, a, r.part)
		r.join, r.e[6] = proof.Join(p, r.back, 2)
		r.bytes, r.e[7] = proof.Put(p)
		return r
	}
	for range 200 {
		vars := variables(1, 6)
		f, p := d.someProof(vars)
		a := d.clauseOf(3, vars)
		r, s := call(f, p, a), call(f, p, a)
		if !slices.Equal(r.clause, s.clause) || !slices.Equal(r.core, s.core) || !slices.Equal(r.from, s.from) || !sameLists(r.clauses, s.clauses) || !same(r.trim, s.trim) || !same(r.part, s.part) || !same(r.back, s.back) || !same(r.join, s.join) || !slices.Equal(r.bytes, s.bytes) || r.e != s.e {
			t.Errorf("%v, %v, %v: %v, and %v", f, p, a, r, s)
		}
	}
}
