package proof_test

import (
	"slices"
	"testing"

	"skolem/api"
	"skolem/proof"
	"skolem/sat"
)

// P10.1

// checked holds Check and Refutes against the definition, and returns whether lines are a proof.
func checked(t *testing.T, f [][]int, p api.Proof) bool {
	t.Helper()
	l, line, e := proof.Check(f, p)
	want, at, err := naiveCheck(f, p)
	if !slices.Equal(l, want) || line != at || e != err {
		t.Errorf("Check(%v, %v) = %v, %d, %v, not %v, %d, %v", f, p, l, line, e, want, at, err)
	}
	if got := proof.Refutes(f, p); got != (err == api.OK && len(want) == 0) {
		t.Errorf("Refutes(%v, %v) = %v", f, p, got)
	}
	return err == api.OK
}

// refused holds Check against an error and its line.
func refused(t *testing.T, name string, f [][]int, p api.Proof, at int, err api.Errno) {
	t.Helper()
	if l, line, e := proof.Check(f, p); len(l) != 0 || line != at || e != err {
		t.Errorf("Check of %s: %v, %d, %v, not line %d, %v", name, l, line, e, at, err)
	}
	if proof.Refutes(f, p) {
		t.Errorf("Refutes of %s", name)
	}
	if _, line, e := naiveCheck(f, p); line != at || e != err {
		t.Errorf("the definition says of %s: %d, %v", name, line, e)
	}
}

// chapterExample has the CNF and the lines of the chapter's examples.
func chapterExample() ([][]int, []api.Line) {
	return [][]int{{1, 2}, {-1, 2}, {-2}}, []api.Line{input(0, 1, 2), input(1, -1, 2), resolve(0, 1, 1, 2), input(2, -2), resolve(2, 3, 2)}
}

func TestChapterExamples(t *testing.T) {
	f, lines := chapterExample()
	if l, line, e := proof.Check(f, proofOf(lines...)); len(l) != 0 || line != 0 || e != api.OK || !proof.Refutes(f, proofOf(lines...)) {
		t.Errorf("all lines: %v, %d, %v", l, line, e)
	}
	if l, line, e := proof.Check(f, proofOf(lines[:3]...)); !slices.Equal(l, []int{2}) || line != 0 || e != api.OK || proof.Refutes(f, proofOf(lines[:3]...)) {
		t.Errorf("the first three: %v, %d, %v", l, line, e)
	}
	if core, e := proof.Core(proofOf(lines...)); !slices.Equal(core, []int{0, 1, 2}) || e != api.OK {
		t.Errorf("Core: %v, %v", core, e)
	}
	if core, e := proof.Core(proofOf(lines[:2]...)); !slices.Equal(core, []int{1}) || e != api.OK {
		t.Errorf("Core of the first two lines: %v, %v", core, e)
	}
	clauses, from, e := proof.Under(f, []int{-1})
	if !sameLists(clauses, [][]int{{2}, {-2}}) || !slices.Equal(from, []int{0, 2}) || e != api.OK {
		t.Errorf("Under -1: %v, %v, %v", clauses, from, e)
	}
	if p, e := proof.Restrict(f, proofOf(lines...), []int{-1}); !same(p, proofOf(input(0, 2), input(1, -2), resolve(0, 1, 2))) || e != api.OK {
		t.Errorf("Restrict under -1: %v, %v", p, e)
	}
	if p, e := proof.Restrict(f[:2], proofOf(lines[:3]...), []int{1}); !same(p, proofOf(input(0, 2))) || e != api.OK {
		t.Errorf("Restrict of the first three under 1: %v, %v", p, e)
	}
	if b, e := proof.Put(proofOf(input(0))); !slices.Equal(b, []byte{82, 80, 1, 0, 2, 1, 0, 0, 0, 0}) || e != api.OK {
		t.Errorf("Put: %v, %v", b, e)
	}
	lines[2] = resolve(0, 1, 1, 1, 2)
	refused(t, "all lines with 1 2 in line 2", f, proofOf(lines...), 2, api.ErrProof)
}

// example has several lines of both kinds.
func example() ([][]int, []api.Line) {
	f := [][]int{{1, 2}, {-1, 3}, {-2}, {2, -3, 5}, {}, {65536}}
	return f, []api.Line{input(0, 1, 2), input(1, -1, 3), resolve(0, 1, 1, 2, 3), input(2, -2), resolve(2, 3, 2, 3), input(3, 2, -3, 5), resolve(2, 5, 3, 2, 5), resolve(6, 3, 2, 5)}
}

func TestCheck(t *testing.T) {
	f, lines := example()
	wants := [][]int{{1, 2}, {-1, 3}, {2, 3}, {-2}, {3}, {2, -3, 5}, {2, 5}, {5}}
	for i, want := range wants { // each beginning of a proof is one
		if l, line, e := proof.Check(f, proofOf(lines[:i+1]...)); !slices.Equal(l, want) || line != 0 || e != api.OK {
			t.Errorf("the first %d lines: %v, %d, %v", i+1, l, line, e)
		}
		checked(t, f, proofOf(lines[:i+1]...))
	}
	for name, c := range map[string]struct {
		p       api.Proof
		refutes bool
	}{
		"the empty clause":               {proofOf(input(4)), true},
		"the empty clause as a list":     {proofOf(api.Line{Rule: api.RuInput, A: 4, Lits: []int{}}), true},
		"the empty clause, and another":  {proofOf(input(4), input(0, 1, 2)), false},
		"another, and the empty clause":  {proofOf(input(0, 1, 2), input(4)), true},
		"a clause several times":         {proofOf(input(0, 1, 2), input(0, 1, 2), input(0, 1, 2)), false},
		"the last variable":              {proofOf(input(5, 65536)), false},
		"a line that is not needed":      {proofOf(input(2, -2), input(5, 65536), input(0, 1, 2), resolve(2, 0, 2, 1)), false},
		"a line again":                   {proofOf(input(2, -2), input(0, 1, 2), resolve(1, 0, 2, 1), resolve(1, 0, 2, 1)), false},
		"resolved the other way round":   {proofOf(input(1, -1, 3), input(0, 1, 2), resolve(1, 0, 1, 2, 3)), false},
		"a literal that both lines have": {proofOf(input(3, 2, -3, 5), input(0, 1, 2), input(1, -1, 3), resolve(1, 2, 1, 2, 3), resolve(3, 0, 3, 2, 5)), false},
		"a line by a line of no need":    {proofOf(input(0, 1, 2), input(1, -1, 3), resolve(0, 1, 1, 2, 3), input(4)), true},
	} {
		if !checked(t, f, c.p) || proof.Refutes(f, c.p) != c.refutes {
			t.Errorf("%s: refused, or Refutes is not %v", name, c.refutes)
		}
	}
	for _, v := range []int{1, 2, 65535, 65536} {
		f := [][]int{{v}, {-v}}
		if p := proofOf(input(0, v), input(1, -v), resolve(0, 1, v)); !checked(t, f, p) || !proof.Refutes(f, p) {
			t.Errorf("%d and its negation", v)
		}
	}
	full := slices.Repeat([][]int{variables(1, 50000)}, 4)
	if p := proofOf(input(3, full[3]...)); !checked(t, full, p) {
		t.Error("MaxLits literals")
	}
	if p := proofOf(input(19999)); !checked(t, make([][]int, 20000), p) || !proof.Refutes(make([][]int, 20000), p) {
		t.Error("MaxClauses clauses")
	}
}

// TestWithoutLine: the errors that have no line come with 0.
func TestWithoutLine(t *testing.T) {
	f, lines := example()
	long := slices.Repeat([]api.Line{input(0, 1, 2)}, 1000001)
	for name, p := range map[string]api.Proof{
		"no lines": {}, "no lines, an empty list": {Lines: []api.Line{}}, "cubes": {Cubes: true, Lines: lines}, "cubes and no lines": {Cubes: true}, "more than MaxLines lines": proofOf(long...),
		"cubes, and a wrong line": {Cubes: true, Lines: append(slices.Clone(lines), input(9))}, "too many lines, and a wrong one": proofOf(append(lines[:3:3], long...)...), "too many lines that are wrong": proofOf(make([]api.Line, 1000001)...),
	} {
		refused(t, name, f, p, 0, api.ErrProof)
		refused(t, name+", and no CNF", [][]int{{2, 1}}, p, 0, api.ErrArg)
	}
	for _, bad := range looseCnfs() {
		refused(t, "a proof of no CNF", bad, proofOf(input(0, bad[0]...)), 0, api.ErrArg)
		refused(t, "a line that is wrong, and no CNF", bad, proofOf(input(0, bad[0]...), input(-1)), 0, api.ErrArg)
		refused(t, "a proof of no CNF behind a clause", append([][]int{{1}}, bad...), proofOf(input(0, 1)), 0, api.ErrArg)
	}
}

// TestRefused spoils one line of a proof in all sorts of ways.
func TestRefused(t *testing.T) {
	f, lines := example()
	spoilt := func(name string, at int, change func(l *api.Line)) {
		t.Helper()
		changed := slices.Clone(lines)
		change(&changed[at])
		refused(t, name, f, proofOf(changed...), at, api.ErrProof)
		refused(t, name+", at the end", f, proofOf(changed[:at+1]...), at, api.ErrProof)
		changed[7] = input(-1)
		refused(t, name+", and another line behind", f, proofOf(changed...), at, api.ErrProof)
	}
	for _, x := range append([]int{-2, 6, 7, 8, 20000}, oddInts...) {
		if x < 0 || x > 5 {
			spoilt("a number of no clause", 3, func(l *api.Line) { l.A = x })
			spoilt("a number of no line before it as A", 4, func(l *api.Line) { l.A = x })
			spoilt("a number of no line before it as B", 4, func(l *api.Line) { l.B = x })
		}
		if x != 0 {
			spoilt("an input with B", 3, func(l *api.Line) { l.B = x })
			spoilt("an input with a pivot", 3, func(l *api.Line) { l.Piv = x })
		}
		spoilt("another pivot", 4, func(l *api.Line) { l.Piv = x })
		spoilt("another literal", 5, func(l *api.Line) { l.Lits = []int{2, x, 5} })
		spoilt("another literal of a resolvent", 4, func(l *api.Line) { l.Lits = []int{x} })
		spoilt("one literal more", 4, func(l *api.Line) { l.Lits = []int{3, x} })
		spoilt("one literal before", 4, func(l *api.Line) { l.Lits = []int{x, 3} })
	}
	for rule := range 256 {
		if api.Rule(rule) != api.RuInput {
			spoilt("an input by another rule", 0, func(l *api.Line) { l.Rule = api.Rule(rule) })
		}
		if api.Rule(rule) != api.RuResolve {
			spoilt("a resolvent by another rule", 4, func(l *api.Line) { l.Rule = api.Rule(rule) })
		}
	}
	spoilt("another clause", 3, func(l *api.Line) { l.A = 0 })
	spoilt("a clause without a literal", 0, func(l *api.Line) { l.Lits = []int{1} })
	spoilt("a clause in another order", 0, func(l *api.Line) { l.Lits = []int{2, 1} })
	spoilt("a clause with a literal more", 0, func(l *api.Line) { l.Lits = []int{1, 2, 3} })
	spoilt("a clause with a literal twice", 0, func(l *api.Line) { l.Lits = []int{1, 2, 2} })
	spoilt("A is the line itself", 4, func(l *api.Line) { l.A = 4 })
	spoilt("B is the line itself", 4, func(l *api.Line) { l.B = 4 })
	spoilt("A is a later line", 4, func(l *api.Line) { l.A = 6 })
	spoilt("B is a later line", 2, func(l *api.Line) { l.B = 3 })
	spoilt("A and B exchanged", 4, func(l *api.Line) { l.A, l.B = l.B, l.A })
	spoilt("A twice", 4, func(l *api.Line) { l.B = l.A })
	spoilt("a negative pivot", 4, func(l *api.Line) { l.Piv = -2 })
	spoilt("a negative pivot, and both exchanged", 4, func(l *api.Line) { l.Piv, l.A, l.B = -2, l.B, l.A })
	spoilt("no pivot", 4, func(l *api.Line) { l.Piv = 0 })
	spoilt("a pivot of A alone", 2, func(l *api.Line) { l.Piv = 2 })
	spoilt("a pivot of B alone", 2, func(l *api.Line) { l.Piv = 3 })
	spoilt("a pivot in no line", 2, func(l *api.Line) { l.Piv = 4 })
	spoilt("a resolvent that is not all", 2, func(l *api.Line) { l.Lits = []int{2} })
	spoilt("a resolvent that is not all either", 2, func(l *api.Line) { l.Lits = []int{3} })
	spoilt("an empty resolvent", 2, func(l *api.Line) { l.Lits = nil })
	spoilt("a literal twice", 2, func(l *api.Line) { l.Lits = []int{2, 2, 3} })
	spoilt("not in order", 2, func(l *api.Line) { l.Lits = []int{3, 2} })
	spoilt("the pivot is left", 2, func(l *api.Line) { l.Lits = []int{1, 2, 3} })
	spoilt("the pivot's negation is left", 2, func(l *api.Line) { l.Lits = []int{-1, 2, 3} })
	spoilt("another sign", 2, func(l *api.Line) { l.Lits = []int{-2, 3} })
}

// TestBothSigns: there is no resolvent if another variable has both signs, whatever the line says.
func TestBothSigns(t *testing.T) {
	f := [][]int{{1, -2}, {-1, 2, 7}, {1, 2}, {-1, -2}, {-2, 3, 5}, {1, 2, -5}}
	for _, l := range [][]int{nil, {7}, {2, 7}, {-2, 7}, {-2, 2, 7}, {2, -2, 7}} {
		refused(t, "1 on 1", f, proofOf(input(0, 1, -2), input(1, -1, 2, 7), resolve(0, 1, 1, l...)), 2, api.ErrProof)
	}
	for _, l := range append(normalLists(1, 2), []int{-2, 2}, []int{2, -2}, []int{-1, 1}, []int{1, -1}) {
		for piv := 1; piv <= 2; piv++ {
			refused(t, "two pivots at once", f, proofOf(input(2, 1, 2), input(3, -1, -2), resolve(0, 1, piv, l...)), 2, api.ErrProof)
		}
	}
	for _, l := range [][]int{{1, 3}, {1, 3, 5}, {1, 3, -5}, {1, 3, -5, 5}} {
		refused(t, "a variable behind the pivot", f, proofOf(input(4, -2, 3, 5), input(5, 1, 2, -5), resolve(1, 0, 2, l...)), 2, api.ErrProof)
	}
}

// TestFirstWrongLine: of several wrong lines the first one is told.
func TestFirstWrongLine(t *testing.T) {
	f, lines := example()
	for i := range lines {
		for j := range i {
			changed := slices.Clone(lines)
			changed[i].Piv++
			changed[j].Rule = api.RuReduce
			refused(t, "two wrong lines", f, proofOf(changed...), j, api.ErrProof)
		}
	}
}

// TestSmallProofs holds Check against the definition for all lists of up to three of some lines.
func TestSmallProofs(t *testing.T) {
	f := [][]int{{1, 2}, {-1, 2}, {-2}}
	lines := []api.Line{input(0, 1, 2), input(1, -1, 2), input(2, -2), input(3), input(0), input(0, 2), {Rule: api.RuReduce, A: 0, Lits: []int{1, 2}}, {Lits: []int{1, 2}}}
	for _, l := range normalLists(1, 2) {
		for piv := -1; piv <= 2; piv++ {
			lines = append(lines, resolve(0, 1, piv, l...), resolve(1, 0, piv, l...))
		}
	}
	valid := 0
	for n := range 4 {
		for _, s := range sequences(n, lines) {
			if checked(t, f, proofOf(s...)) {
				valid++
			}
		}
	}
	if valid < 27 {
		t.Errorf("%d proofs", valid)
	}
}

// change makes a proof another one at one place.
func (d *dice) change(p api.Proof) api.Proof {
	lines := slices.Clone(p.Lines)
	i := d.below(len(lines))
	l := &lines[i]
	l.Lits = slices.Clone(l.Lits)
	number := func(x int) int {
		return []int{x + 1, x - 1, -x, d.below(len(lines)), oddInts[d.below(len(oddInts))]}[d.below(5)]
	}
	switch k := d.below(12); {
	case k == 0:
		l.A = number(l.A)
	case k == 1:
		l.B = number(l.B)
	case k == 2:
		l.Piv = number(l.Piv)
	case k == 3:
		l.Rule = api.Rule(d.below(5))
	case k == 4:
		l.A, l.B = l.B, l.A
	case k == 5:
		return proofOf(slices.Delete(lines, i, i+1)...)
	case k == 6:
		return proofOf(slices.Insert(lines, i, *l)...)
	case k == 7:
		j := d.below(len(lines))
		lines[i], lines[j] = lines[j], lines[i]
	case k == 8:
		l.Lits = append(l.Lits, 1+d.below(20))
	case len(l.Lits) == 0:
		l.Lits = []int{1}
	case k == 9:
		j := d.below(len(l.Lits))
		l.Lits = slices.Delete(l.Lits, j, j+1)
	case k == 10:
		j := d.below(len(l.Lits))
		l.Lits = slices.Insert(l.Lits, j, l.Lits[j])
	default:
		j := d.below(len(l.Lits))
		l.Lits[j] = number(l.Lits[j])
	}
	return proofOf(lines...)
}

// TestChangedProofs holds Check against the definition for proofs, and for such that are changed at one or two places.
func TestChangedProofs(t *testing.T) {
	d := dice(101)
	valid, wrong := 0, 0
	for range 150 {
		vars := d.vars(7)
		f, p := d.refutation(vars)
		if d.below(2) == 0 {
			f = d.cnf(6, 3, vars)
			p = d.grown(f, 3+d.below(20))
		}
		if !checked(t, f, p) || !checked(t, f, d.padded(p)) {
			t.Errorf("refused: %v, %v", f, p)
		}
		for range 150 {
			changed := d.change(p)
			if d.below(3) == 0 && len(changed.Lines) > 0 {
				changed = d.change(changed)
			}
			if checked(t, f, changed) {
				valid++
			} else {
				wrong++
			}
		}
	}
	if valid < 1000 || wrong < 5000 {
		t.Errorf("%d are proofs, %d are not", valid, wrong)
	}
}

// TestAsSat: Check and layer 9's Check agree on proofs of layer 9.
func TestAsSat(t *testing.T) {
	d := dice(102)
	for _, f := range [][][]int{holes(5, 4), holes(7, 6), d.cnf(700, 3, variables(1, 100)), d.cnf(300, 3, variables(65500, 65536))} {
		r, e := sat.Solve(f, nil, api.MaxBudget)
		if r.Value != api.False || e != api.OK || !proof.Refutes(f, r.Proof) {
			t.Errorf("%d clauses: %v, %v, %d lines", len(f), r.Value, e, len(r.Proof.Lines))
		}
		for n := len(r.Proof.Lines); n > 0; n /= 2 {
			part := proofOf(r.Proof.Lines[:n]...)
			l, line, e := proof.Check(f, part)
			if want, ok := sat.Check(f, part); !ok || !slices.Equal(l, want) || line != 0 || e != api.OK {
				t.Errorf("%d lines: %v, %d, %v, but %v, %v", n, l, line, e, want, ok)
			}
		}
	}
}

// TestLinesAtTheLimit: MaxLines lines may be a proof, one more may not; the last line may be the first wrong one.
func TestLinesAtTheLimit(t *testing.T) {
	f := [][]int{{1, 2}, {-1, 2}}
	lines := make([]api.Line, 1000001)
	for i := range lines {
		lines[i] = []api.Line{input(0, 1, 2), input(1, -1, 2), resolve(i-2, i-1, 1, 2)}[i%3]
	}
	for n, want := range map[int][]int{999999: {2}, 1000000: {1, 2}} {
		if l, line, e := proof.Check(f, proofOf(lines[:n]...)); !slices.Equal(l, want) || line != 0 || e != api.OK {
			t.Errorf("%d lines: %v, %d, %v", n, l, line, e)
		}
	}
	refused(t, "one line more than MaxLines", f, proofOf(lines...), 0, api.ErrProof)
	lines[999999].A = 2
	refused(t, "a last line that is wrong", f, proofOf(lines[:1000000]...), 999999, api.ErrProof)
	refused(t, "a last line that is wrong, and one more", f, proofOf(lines...), 0, api.ErrProof)
}
