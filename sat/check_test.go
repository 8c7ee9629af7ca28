package sat_test

import (
	"slices"
	"testing"

	"skolem/api"
	"skolem/sat"
)

// P9.2

func input(at int, l ...int) api.Line { return api.Line{Rule: api.RuInput, A: at, Lits: l} }

func resolve(a, b, piv int, l ...int) api.Line {
	return api.Line{Rule: api.RuResolve, A: a, B: b, Piv: piv, Lits: l}
}

func proof(lines ...api.Line) api.Proof { return api.Proof{Lines: lines} }

// checked holds Check against the definition.
func checked(t *testing.T, f [][]int, p api.Proof) bool {
	t.Helper()
	l, ok := sat.Check(f, p)
	want, valid := naiveCheck(f, p)
	if ok != valid || !slices.Equal(l, want) {
		t.Errorf("Check(%s, %s) = %v, %v, not %v, %v", short(f), short(p), l, ok, want, valid)
	}
	return ok
}

// example has several lines of both kinds.
func example() ([][]int, []api.Line) {
	f := [][]int{{1, 2}, {-1, 3}, {-2}, {2, -3, 5}, {}, {65536}}
	return f, []api.Line{input(0, 1, 2), input(1, -1, 3), resolve(0, 1, 1, 2, 3), input(2, -2), resolve(2, 3, 2, 3), input(3, 2, -3, 5), resolve(2, 5, 3, 2, 5), resolve(6, 3, 2, 5)}
}

func TestCheckExamples(t *testing.T) {
	f, lines := example()
	wants := [][]int{{1, 2}, {-1, 3}, {2, 3}, {-2}, {3}, {2, -3, 5}, {2, 5}, {5}}
	for i, want := range wants { // each beginning of a proof is one
		if l, ok := sat.Check(f, proof(lines[:i+1]...)); !ok || !slices.Equal(l, want) {
			t.Errorf("the first %d lines: %v, %v", i+1, l, ok)
		}
	}
	for name, p := range map[string]api.Proof{
		"the empty clause":                   proof(input(4)),
		"the empty clause as a list":         proof(api.Line{Rule: api.RuInput, A: 4, Lits: []int{}}),
		"a clause several times":             proof(input(0, 1, 2), input(0, 1, 2), input(0, 1, 2)),
		"the last variable":                  proof(input(5, 65536)),
		"a line that is not needed":          proof(input(2, -2), input(5, 65536), input(0, 1, 2), resolve(2, 0, 2, 1)),
		"a line again":                       proof(input(2, -2), input(0, 1, 2), resolve(1, 0, 2, 1), resolve(1, 0, 2, 1)),
		"resolved the other way round":       proof(input(1, -1, 3), input(0, 1, 2), resolve(1, 0, 1, 2, 3)),
		"a literal that both lines have":     proof(input(3, 2, -3, 5), input(0, 1, 2), input(1, -1, 3), resolve(1, 2, 1, 2, 3), resolve(3, 0, 3, 2, 5)),
		"a literal that a line has back":     proof(input(0, 1, 2), input(2, -2), resolve(0, 1, 2, 1), input(1, -1, 3), resolve(0, 3, 1, 2, 3)),
		"two units":                          proof(input(2, -2), input(0, 1, 2), resolve(1, 0, 2, 1), input(1, -1, 3), resolve(2, 3, 1, 3)),
		"a tautology is not made by a pivot": proof(input(1, -1, 3), input(3, 2, -3, 5), resolve(0, 1, 3, -1, 2, 5)),
	} {
		if !checked(t, f, p) {
			t.Errorf("%s: refused", name)
		}
	}
	if l, ok := sat.Check([][]int{{1}, {-1}}, proof(input(0, 1), input(1, -1), resolve(0, 1, 1))); !ok || len(l) != 0 {
		t.Errorf("the refutation of 1, -1: %v, %v", l, ok)
	}
}

func TestCheckRefuses(t *testing.T) {
	f, lines := example()
	f = append(f, []int{-1, 2, 7}, []int{1, -2}, []int{-1, -2})
	refused := func(name string, f [][]int, p api.Proof) {
		t.Helper()
		if l, ok := sat.Check(f, p); ok || len(l) != 0 {
			t.Errorf("%s: %v, %v", name, l, ok)
		}
		if _, ok := naiveCheck(f, p); ok {
			t.Errorf("%s: a proof by definition", name)
		}
	}
	with := func(at int, change func(l *api.Line)) api.Proof {
		changed := slices.Clone(lines)
		change(&changed[at])
		return proof(changed...)
	}
	refused("no lines", f, api.Proof{})
	refused("no lines, an empty list", f, api.Proof{Lines: []api.Line{}})
	refused("cubes", f, api.Proof{Cubes: true, Lines: lines})
	refused("cubes and no lines", f, api.Proof{Cubes: true})
	for _, bad := range looseCnfs() {
		refused("no CNF", bad, proof(input(0, bad[0]...)))
		refused("no CNF", append([][]int{{1}}, bad...), proof(input(0, 1)))
	}
	for _, x := range append([]int{-2, 9, 10, 20000}, oddInts...) {
		if x < 0 || x > 8 {
			refused("a number of no clause", f, with(3, func(l *api.Line) { l.A = x }))
			refused("a number of no line as A", f, with(4, func(l *api.Line) { l.A = x }))
			refused("a number of no line as B", f, with(4, func(l *api.Line) { l.B = x }))
		}
		if x != 0 {
			refused("an input with B", f, with(3, func(l *api.Line) { l.B = x }))
			refused("an input with a pivot", f, with(3, func(l *api.Line) { l.Piv = x }))
		}
		refused("another pivot", f, with(4, func(l *api.Line) { l.Piv = x }))
		refused("another literal", f, with(5, func(l *api.Line) { l.Lits = []int{2, x, 5} }))
		refused("another literal of a resolvent", f, with(4, func(l *api.Line) { l.Lits = []int{x} }))
		refused("one literal more", f, with(4, func(l *api.Line) { l.Lits = []int{3, x} }))
		refused("one literal before", f, with(4, func(l *api.Line) { l.Lits = []int{x, 3} }))
	}
	for rule := range 256 {
		if api.Rule(rule) != api.RuInput {
			refused("an input by another rule", f, with(0, func(l *api.Line) { l.Rule = api.Rule(rule) }))
		}
		if api.Rule(rule) != api.RuResolve {
			refused("a resolvent by another rule", f, with(4, func(l *api.Line) { l.Rule = api.Rule(rule) }))
		}
	}
	for name, p := range map[string]api.Proof{
		"another clause":                with(3, func(l *api.Line) { l.A = 0 }),
		"a clause without a literal":    with(0, func(l *api.Line) { l.Lits = []int{1} }),
		"a clause in another order":     with(0, func(l *api.Line) { l.Lits = []int{2, 1} }),
		"a clause with a literal more":  with(0, func(l *api.Line) { l.Lits = []int{1, 2, 3} }),
		"a clause with a literal twice": with(0, func(l *api.Line) { l.Lits = []int{1, 2, 2} }),
		"A is the line itself":          with(4, func(l *api.Line) { l.A = 4 }),
		"B is the line itself":          with(4, func(l *api.Line) { l.B = 4 }),
		"A is a later line":             with(4, func(l *api.Line) { l.A = 6 }),
		"B is a later line":             with(2, func(l *api.Line) { l.B = 3 }),
		"A and B exchanged":             with(4, func(l *api.Line) { l.A, l.B = l.B, l.A }),
		"A twice":                       with(4, func(l *api.Line) { l.B = l.A }),
		"a negative pivot":              with(4, func(l *api.Line) { l.Piv = -2 }),
		"no pivot":                      with(4, func(l *api.Line) { l.Piv = 0 }),
		"a pivot of A alone":            with(2, func(l *api.Line) { l.Piv = 2 }),
		"a pivot of B alone":            with(2, func(l *api.Line) { l.Piv = 3 }),
		"a pivot in no line":            with(2, func(l *api.Line) { l.Piv = 4 }),
		"a resolvent that is not all":   with(2, func(l *api.Line) { l.Lits = []int{2} }),
		"a resolvent that is not all 2": with(2, func(l *api.Line) { l.Lits = []int{3} }),
		"an empty resolvent":            with(2, func(l *api.Line) { l.Lits = nil }),
		"a literal twice":               with(2, func(l *api.Line) { l.Lits = []int{2, 2, 3} }),
		"not in order":                  with(2, func(l *api.Line) { l.Lits = []int{3, 2} }),
		"the pivot is left":             with(2, func(l *api.Line) { l.Lits = []int{1, 2, 3} }),
		"the pivot's negation is left":  with(2, func(l *api.Line) { l.Lits = []int{-1, 2, 3} }),
		"another sign":                  with(2, func(l *api.Line) { l.Lits = []int{-2, 3} }),
		"a wrong line in front":         proof(append([]api.Line{input(0, 1)}, lines...)...),
		"a wrong line behind":           proof(append(slices.Clone(lines), input(0, 1))...),
		"a variable with both signs":    proof(input(7, 1, -2), input(6, -1, 2, 7), resolve(0, 1, 1, -2, 2, 7)),
		"the same, without it":          proof(input(7, 1, -2), input(6, -1, 2, 7), resolve(0, 1, 1, 7)),
		"the same, one of them":         proof(input(7, 1, -2), input(6, -1, 2, 7), resolve(0, 1, 1, 2, 7)),
		"the same, the other one":       proof(input(7, 1, -2), input(6, -1, 2, 7), resolve(0, 1, 1, -2, 7)),
		"two pivots at once":            proof(input(0, 1, 2), input(8, -1, -2), resolve(0, 1, 1)),
		"a pivot that A has negative":   proof(input(0, 1, 2), input(7, 1, -2), resolve(1, 0, 2, 1)),
	} {
		refused(name, f, p)
	}
}

// TestSmallProofs holds Check against the definition for all lists of up to three of some lines.
func TestSmallProofs(t *testing.T) {
	f := [][]int{{1, 2}, {-1, 2}, {-2}}
	lines := []api.Line{input(0, 1, 2), input(1, -1, 2), input(2, -2), input(3), input(0), input(0, 2), {Rule: api.RuReduce, A: 0, Lits: []int{1, 2}}, {Lits: []int{1, 2}}}
	for _, l := range normalLists(1, 2) {
		for piv := -1; piv <= 2; piv++ {
			lines = append(lines, resolve(0, 1, piv, l...), resolve(1, 0, piv, l...))
		}
	}
	valid := 0
	for _, a := range lines {
		checked(t, f, proof(a))
		for _, b := range lines {
			checked(t, f, proof(a, b))
			for _, c := range lines {
				if checked(t, f, proof(a, b, c)) {
					valid++
				}
			}
		}
	}
	if valid < 27 {
		t.Errorf("%d proofs", valid)
	}
}

// change makes a proof another one at one place.
func (d *dice) change(p api.Proof) api.Proof {
	lines := slices.Clone(p.Lines)
	i := d.below(len(lines))
	l := &lines[i]
	l.Lits = slices.Clone(l.Lits)
	number := func(x int) int {
		return []int{x + 1, x - 1, -x, d.below(len(lines)), oddInts[d.below(len(oddInts))]}[d.below(5)]
	}
	switch k := d.below(12); {
	case k == 0:
		l.A = number(l.A)
	case k == 1:
		l.B = number(l.B)
	case k == 2:
		l.Piv = number(l.Piv)
	case k == 3:
		l.Rule = api.Rule(d.below(5))
	case k == 4:
		l.A, l.B = l.B, l.A
	case k == 5:
		return proof(slices.Delete(lines, i, i+1)...)
	case k == 6:
		return proof(slices.Insert(lines, i, *l)...)
	case k == 7:
		j := d.below(len(lines))
		lines[i], lines[j] = lines[j], lines[i]
	case k == 8:
		l.Lits = append(l.Lits, 1+d.below(20))
	case len(l.Lits) == 0:
		l.Lits = []int{1}
	case k == 9:
		j := d.below(len(l.Lits))
		l.Lits = slices.Delete(l.Lits, j, j+1)
	case k == 10:
		j := d.below(len(l.Lits))
		l.Lits = slices.Insert(l.Lits, j, l.Lits[j])
	default:
		j := d.below(len(l.Lits))
		l.Lits[j] = number(l.Lits[j])
	}
	return proof(lines...)
}

// TestChangedProofs holds Check against the definition for proofs that Solve makes, and for such that are changed at one or two places.
func TestChangedProofs(t *testing.T) {
	d := dice(92)
	valid, wrong := 0, 0
	for range 300 {
		f := d.cnf(60, 2+d.below(2), d.vars(8))
		r, _ := sat.Solve(f, nil, api.MaxBudget)
		if r.Value != api.False {
			continue
		}
		if !checked(t, f, r.Proof) {
			t.Errorf("refused: %v, %v", f, r.Proof)
		}
		for range 100 {
			p := d.change(r.Proof)
			if d.below(3) == 0 && len(p.Lines) > 0 {
				p = d.change(p)
			}
			if checked(t, f, p) {
				valid++
			} else {
				wrong++
			}
		}
	}
	if valid < 500 || wrong < 5000 {
		t.Errorf("%d are proofs, %d are not", valid, wrong)
	}
}

// TestLinesAtTheLimit: MaxLines lines may be a proof, one more may not.
func TestLinesAtTheLimit(t *testing.T) {
	f := [][]int{{1, 2}, {-1, 2}}
	lines := make([]api.Line, 1000001)
	for i := range lines {
		lines[i] = []api.Line{input(0, 1, 2), input(1, -1, 2), resolve(i-2, i-1, 1, 2)}[i%3]
	}
	for n, want := range map[int]bool{999999: true, 1000000: true, 1000001: false} {
		if l, ok := sat.Check(f, proof(lines[:n]...)); ok != want || ok != (len(l) > 0) {
			t.Errorf("%d lines: %v, %v", n, l, ok)
		}
	}
	if _, ok := sat.Check(f, proof(slices.Repeat(lines[:1], 1000001)...)); ok {
		t.Error("a clause 1,000,001 times")
	}
	if l, ok := sat.Check(f, proof(slices.Repeat(lines[:1], 1000000)...)); !ok || !slices.Equal(l, []int{1, 2}) {
		t.Errorf("a clause 1,000,000 times: %v, %v", l, ok)
	}
}
