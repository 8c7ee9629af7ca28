package interp_test

import (
	"slices"
	"testing"

	"skolem/api"
)

// P11.2 and P0.1: what Make and Strong refuse, and which error comes first.

// badProofs are proofs that prove no empty clause from the clauses of the chapter's example.
func badProofs() map[string]api.Proof {
	_, p := example()
	l := p.Lines
	all := map[string]api.Proof{
		"no lines": {}, "no lines, an empty list": {Lines: []api.Line{}}, "Cubes": {Cubes: true, Lines: l}, "Cubes and no lines": {Cubes: true},
		"another clause": proofOf(l[:6]...), "another clause, a line less": proofOf(l[:3]...), "an input": proofOf(l[0]), "an input behind the empty clause": proofOf(append(slices.Clip(l), l[5])...),
		"a line of no rule": proofOf(append(slices.Clip(l), api.Line{})...), "a reduction": proofOf(append(slices.Clip(l), api.Line{Rule: api.RuReduce, A: 6})...), "a rule that is none": proofOf(append(slices.Clip(l), api.Line{Rule: 255})...),
		"an empty clause that is none": proofOf(input(0)), "an empty clause of no number": proofOf(input(4)), "one behind": proofOf(append(slices.Clip(l), input(4))...),
		"more than MaxLines lines": proofOf(append(slices.Repeat([]api.Line{input(0, 1, 2)}, 1000000-6), rest(l, 1000000-6)...)...),
	}
	spoilt := func(name string, at int, change func(x *api.Line)) {
		lines := slices.Clone(l)
		change(&lines[at])
		all[name] = proofOf(lines...)
	}
	spoilt("another clause's number", 0, func(x *api.Line) { x.A = 1 })
	spoilt("a number that is negative", 0, func(x *api.Line) { x.A = -1 })
	spoilt("a number that is too great", 0, func(x *api.Line) { x.A = 4 })
	spoilt("an input with B", 0, func(x *api.Line) { x.B = 1 })
	spoilt("an input with a pivot", 0, func(x *api.Line) { x.Piv = 1 })
	spoilt("an input with a literal less", 0, func(x *api.Line) { x.Lits = []int{1} })
	spoilt("an input with another sign", 3, func(x *api.Line) { x.Lits = []int{2, 3} })
	spoilt("lines exchanged", 2, func(x *api.Line) { x.A, x.B = x.B, x.A })
	spoilt("another pivot", 2, func(x *api.Line) { x.Piv = 2 })
	spoilt("a negative pivot", 2, func(x *api.Line) { x.Piv = -1 })
	spoilt("a line itself", 2, func(x *api.Line) { x.B = 2 })
	spoilt("a later line", 2, func(x *api.Line) { x.B = 3 })
	spoilt("another resolvent", 2, func(x *api.Line) { x.Lits = []int{2, 3} })
	spoilt("an empty resolvent", 2, func(x *api.Line) { x.Lits = nil })
	spoilt("an empty input", 5, func(x *api.Line) { x.Lits = nil })
	spoilt("the last line with a literal", 6, func(x *api.Line) { x.Lits = []int{3} })
	for _, x := range oddInts {
		if x < 0 || x > 6 {
			spoilt("odd numbers", 6, func(l *api.Line) { l.A, l.B, l.Piv = x, x, x })
			spoilt("an odd line", 4, func(l *api.Line) { l.A = x })
			spoilt("an odd literal", 4, func(l *api.Line) { l.Lits = []int{x} })
			spoilt("an odd clause", 5, func(l *api.Line) { l.A, l.Lits = x, []int{x} })
		}
	}
	return all
}

// rest returns lines as they are behind so many others.
func rest(l []api.Line, n int) []api.Line {
	l = slices.Clone(l)
	for i := range l {
		if l[i].Rule == api.RuResolve {
			l[i].A, l[i].B = l[i].A+n, l[i].B+n
		}
	}
	return l
}

func TestErrProof(t *testing.T) {
	f, p := example()
	for name, bad := range badProofs() {
		for _, left := range [][]int{nil, {0}, {0, 1}, {2, 3}, numbers(0, 3)} {
			refused(t, name, f, left, bad, api.ErrProof)
		}
		refused(t, name+", of no clauses", nil, nil, bad, api.ErrProof)
	}
	for _, n := range []int{0, 1, 2, 3} { // clauses that lack one that the proof uses
		refused(t, "a clause is missing", slices.Delete(slices.Clone(f), n, n+1), []int{0}, p, api.ErrProof)
	}
	refused(t, "another order", [][]int{f[1], f[0], f[2], f[3]}, []int{0}, p, api.ErrProof)
}

// TestErrArg: no CNF, or no numbers of clauses, is told before all else.
func TestErrArg(t *testing.T) {
	f, p := example()
	proofs := badProofs()
	proofs["a refutation"] = p
	for _, left := range looseNumbers(4) {
		refused(t, "loose numbers", f, left, p, api.ErrArg)
		for name, bad := range proofs {
			if len(bad.Lines) < 100 {
				refused(t, "loose numbers, "+name, f, left, bad, api.ErrArg)
			}
		}
	}
	for _, bad := range looseCnfs() {
		alone := proofOf(input(0, bad[0]...))
		for _, left := range [][]int{nil, {0}, {0, 0}, {-1}, {len(bad) - 1}, {len(bad)}} {
			refused(t, "no CNF", bad, left, alone, api.ErrArg)
			refused(t, "no CNF, no proof", bad, left, api.Proof{}, api.ErrArg)
		}
		longer := append(slices.Clip(f), bad...) // the proof is right up to there
		refused(t, "no CNF behind clauses", longer, []int{0, 1}, p, api.ErrArg)
	}
	for _, x := range []int{20000, 20001} {
		full := append(slices.Clip(f), make([][]int, 20000-4)...)
		refused(t, "MaxClauses clauses, a number too great", full, []int{0, x}, p, api.ErrArg)
	}
	refused(t, "the number of a line", f, []int{5}, p, api.ErrArg)
}

// TestSpoilt holds both functions against the definition where one number of a proof is another one.
func TestSpoilt(t *testing.T) {
	d := dice(3)
	seen := map[api.Errno]int{}
	for range 2000 {
		f, left, p := d.sided(d.vars(3 + d.below(4)))
		l := slices.Clone(p.Lines)
		x := &l[d.below(len(l))]
		switch number := []int{d.below(len(l)), d.below(len(f)), oddInts[d.below(len(oddInts))]}[d.below(3)]; d.below(6) {
		case 0:
			x.A = number
		case 1:
			x.B = number
		case 2:
			x.Piv = number
		case 3:
			x.Rule = api.Rule(d.below(4))
		case 4:
			x.Lits = append(slices.Clone(x.Lits), number)
		case 5:
			left = append(slices.Clip(left), number)
		}
		for _, fn := range both() {
			_, _, e := fn.made(t, f, left, proofOf(l...))
			seen[e]++
		}
	}
	if seen[api.OK] < 50 || seen[api.ErrArg] < 50 || seen[api.ErrProof] < 1000 {
		t.Errorf("%v", seen)
	}
}
