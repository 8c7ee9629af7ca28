package proof_test

import (
	"slices"
	"testing"

	"skolem/api"
	"skolem/proof"
)

// P0.1, and the rules R3 and R6, for all functions of the layer.

// weirdLists returns lists of all sorts: normal, not normal, with integers that are no literals, empty, long.
func weirdLists() [][]int {
	l := [][]int{nil, {}, variables(1, 65536), variables(1, 65537), make([]int, 200001), slices.Repeat([]int{-7, 7}, 100001)}
	l = append(l, normalLists(1, 2, 65536)...)
	for _, x := range oddInts {
		l = append(l, []int{x}, []int{1, x}, []int{x, 2})
	}
	return append(l, loose...)
}

// weirdProofs returns proofs of all sorts, whose lines have some literals.
func weirdProofs(l []int, k int) []api.Proof {
	x, y := oddInts[k%len(oddInts)], oddInts[k*5%len(oddInts)]
	lines := []api.Line{input(0, l...), {Rule: api.RuInput, A: x, B: y, Piv: x, Lits: l}, resolve(0, 1, x, l...), resolve(x, y, 1, l...), {Rule: api.Rule(k % 5), A: y, B: x, Piv: y, Lits: l}, {Rule: api.Rule(y), A: y, Piv: 1, Lits: l}, resolve(1, 0, 1)}
	all := []api.Proof{{}, {Cubes: true}, {Cubes: true, Lines: lines}, proofOf(append(lines[:3:3], lines[6])...)}
	for n := range lines {
		all = append(all, proofOf(lines[n:]...), proofOf(lines[:n+1]...))
	}
	return all
}

// TestTotal calls each function with all sorts of arguments: none panics, and an error comes alone.
func TestTotal(t *testing.T) {
	lists := weirdLists()
	cnfs := [][][]int{nil, {}, {nil}, {{}}, lists, lists[:2], lists[6:33], make([][]int, 20000), make([][]int, 20001), slices.Repeat([][]int{{1, 2}}, 20000), slices.Repeat([][]int{nil, {1}, {0}}, 9000), slices.Repeat(lists[2:3], 3), slices.Repeat(lists[2:3], 4), {lists[2], {-1}}}
	for i, a := range lists {
		short := a[:min(3, len(a))]
		for j, f := range append(cnfs, [][]int{a}, [][]int{a, a}, [][]int{{1}, a, {-1}}) {
			clauses, from, e := proof.Under(f, a)
			if e != api.OK && len(clauses)+len(from) > 0 || len(clauses) != len(from) || (e == api.OK) != (naiveMayCnf(f) && naiveMayList(a)) {
				t.Errorf("Under of CNF %d, list %d: %v, %v, %v", j, i, clauses, from, e)
			}
			for k, p := range weirdProofs(short, i+j)[(i+j)%14:][:4] {
				l, line, e := proof.Check(f, p)
				if want, at, err := naiveCheck(f, p); !slices.Equal(l, want) || line != at || e != err {
					t.Errorf("Check of CNF %d, proof %d, %v: %v, %d, %v", j, k, short, l, line, e)
				}
				for _, with := range [][]int{a, short} {
					if q, e := proof.Restrict(f, p, with); e != api.OK && !isNothing(q) {
						t.Errorf("Restrict of CNF %d, proof %d, list %d: %v, %v", j, k, i, q, e)
					}
					if q, e := proof.Lift(f, with, p); e != api.OK && !isNothing(q) {
						t.Errorf("Lift of CNF %d, proof %d, list %d: %v, %v", j, k, i, q, e)
					}
				}
			}
		}
		for k, p := range weirdProofs(a[:min(70, len(a))], i) {
			trimmed(t, p)
			for _, q := range weirdProofs(short, i+k)[(i+k)%14:][:4] {
				joined(t, p, q, oddInts[(i+k)%len(oddInts)])
				joined(t, q, p, 1)
			}
			put(t, p)
		}
	}
}

// TestAnyBytes: Get takes any bytes.
func TestAnyBytes(t *testing.T) {
	d := dice(119)
	for range 20000 {
		b := make([]byte, d.below(40))
		for i := range b {
			b[i] = byte(d.below(256))
		}
		got(t, b)
		got(t, append(bytesOf(byte(d.below(2)), 2*byte(d.below(4))), b...))
	}
	for range 20000 { // small numbers
		b := bytesOf(0, 2*byte(d.below(4)))
		for range d.below(24) {
			b = append(b, byte(d.below(5)))
		}
		got(t, b)
	}
}

// memory hands out lists and rows with other elements behind them, and knows what they were.
type memory struct{ wholes, before [][]int }

func (m *memory) list(l ...int) []int {
	whole := append(slices.Clone(l), 77, 78, 79, 80)
	m.wholes, m.before = append(m.wholes, whole), append(m.before, slices.Clone(whole))
	return whole[:len(l)]
}

// TestArguments: no function changes its arguments, or uses what stands behind them.
func TestArguments(t *testing.T) {
	m := &memory{}
	whole := [][]int{m.list(1, 2), m.list(-1, 2, 3), m.list(-2, 4), m.list(-3), {88}, {-89}}
	f := whole[:4]
	lines := []api.Line{{Rule: api.RuInput, A: 0, Lits: m.list(1, 2)}, {Rule: api.RuInput, A: 1, Lits: m.list(-1, 2, 3)}, {Rule: api.RuResolve, A: 0, B: 1, Piv: 1, Lits: m.list(2, 3)}, {Rule: api.RuInput, A: 3, Lits: m.list(-3)}, {Rule: api.RuResolve, A: 2, B: 3, Piv: 3, Lits: m.list(2)}, input(99), input(98)}
	other := []api.Line{{Rule: api.RuInput, A: 2, Lits: m.list(-2, 4)}, input(97), input(96)}
	kept := [][]api.Line{slices.Clone(lines), slices.Clone(other)}
	p, q := proofOf(lines[:5]...), proofOf(other[:1]...)
	p.Lines, q.Lines = lines[:5], other[:1] // with room behind
	a := m.list(-1, 5)
	for range 2 {
		if l := proves(t, "p", f, p); !slices.Equal(l, []int{2}) {
			t.Errorf("%v", l)
		}
		if r, e := proof.Trim(p); !same(r, p) || e != api.OK {
			t.Errorf("%v, %v", r, e)
		}
		if core, e := proof.Core(p); !slices.Equal(core, []int{0, 1, 3}) || e != api.OK {
			t.Errorf("%v, %v", core, e)
		}
		if clauses, from := under(t, f, a); !sameLists(clauses, [][]int{{2}, {-2, 4}, {-3}}) || !slices.Equal(from, []int{0, 2, 3}) {
			t.Errorf("%v, %v", clauses, from)
		}
		if r, e := restricted(t, f, p, a); !same(r, proofOf(input(0, 2))) || e != api.OK {
			t.Errorf("%v, %v", r, e)
		}
		if r, e := lifted(t, f, a, proofOf(input(0, 2), input(1, -2, 4), resolve(0, 1, 2, 4))); !same(r, proofOf(input(0, 1, 2), input(2, -2, 4), resolve(0, 1, 2, 1, 4))) || e != api.OK {
			t.Errorf("%v, %v", r, e)
		}
		if j, e := joined(t, p, q, 2); !same(j, proofOf(append(lines[:5:5], other[0], resolve(4, 5, 2, 4))...)) || e != api.OK {
			t.Errorf("%v, %v", j, e)
		}
		put(t, p)
	}
	if !sameLists(m.wholes, m.before) {
		t.Errorf("%v", m.wholes)
	}
	if !slices.Equal(whole[4], []int{88}) || !slices.Equal(whole[5], []int{-89}) || !same(proofOf(lines...), proofOf(kept[0]...)) || !same(proofOf(other...), proofOf(kept[1]...)) {
		t.Errorf("%v, %v, %v", whole, lines, other)
	}
	b := append(put(t, p), 1, 2, 3)
	if r, e := proof.Get(b[:len(b)-3]); !same(r, p) || e != api.OK {
		t.Errorf("%v, %v", r, e)
	}
}

// overwrite destroys a list together with the capacity behind it.
func overwrite[E any](l []E, mark E) {
	l = l[:cap(l)]
	for i := range l {
		l[i] = mark
	}
}

// TestResultsShareNothing: what is not a formula or a proof is new memory, each list of its own; proofs keep nothing of what is neither.
func TestResultsShareNothing(t *testing.T) {
	f := [][]int{{1, 2}, {-1, 2, 3}, {-2, 4}, {-3}, {}, {1, 2}}
	p := proofOf(input(0, 1, 2), input(1, -1, 2, 3), resolve(0, 1, 1, 2, 3))
	a := []int{-1, 5}
	g, q, b := [][]int{{1, 2}, {-1, 2, 3}, {-2, 4}, {-3}, {}, {1, 2}}, proofOf(input(0, 1, 2), input(1, -1, 2, 3), resolve(0, 1, 1, 2, 3)), slices.Clone(a)
	stays := func(what string) {
		t.Helper()
		if !sameLists(f, g) || !same(p, q) || !slices.Equal(a, b) {
			t.Errorf("%s: %v, %v, %v", what, f, p, a)
		}
	}
	clause, _, _ := proof.Check(f, p)
	overwrite(clause, -999)
	stays("Check")
	core, _ := proof.Core(p)
	overwrite(core, -999)
	stays("Core")
	want, at := under(t, f, a)
	for i := range want {
		clauses, from := under(t, f, a)
		overwrite(clauses[i], -999)
		stays("a clause of Under")
		for j, l := range clauses {
			if j != i && !slices.Equal(l, want[j]) {
				t.Errorf("clause %d changes with clause %d", j, i)
			}
		}
		overwrite(clauses, nil)
		overwrite(from, -999)
		stays("Under")
	}
	if again, from := under(t, f, a); !sameLists(again, want) || !slices.Equal(from, at) {
		t.Errorf("%v, %v", again, from)
	}
	bytes, _ := proof.Put(p)
	copied := slices.Clone(bytes)
	r, _ := proof.Get(bytes)
	overwrite(bytes, 9)
	stays("Put")
	if !same(r, p) {
		t.Errorf("Get keeps the bytes: %v", r)
	}
	if again, _ := proof.Put(p); !slices.Equal(again, copied) {
		t.Errorf("%v", again)
	}
	part, _ := proof.Restrict(f, p, a)
	back, _ := proof.Lift(f, a, part)
	overwrite(a, -999)
	if !same(part, proofOf(input(0, 2))) || !same(back, proofOf(input(0, 1, 2))) {
		t.Errorf("%v, %v", part, back)
	}
}

// TestLinesShareNothing: no two lines of a new proof share memory.
func TestLinesShareNothing(t *testing.T) {
	f := [][]int{{1, 2, 9}, {-1, 2}, {-2, 3}, {-2, -3}}
	p := func() api.Proof { // needs all its lines, and has one twice
		return proofOf(input(0, 1, 2, 9), input(0, 1, 2, 9), input(1, -1, 2), resolve(0, 2, 1, 2, 9), input(2, -2, 3), resolve(3, 4, 2, 3, 9), input(3, -2, -3), resolve(5, 6, 3, -2, 9), resolve(1, 7, 2, 1, 9))
	}
	under, _ := proof.Restrict(f, p(), []int{-9})
	bytes, _ := proof.Put(p())
	for name, make := range map[string]func() api.Proof{
		"Trim":     func() api.Proof { q, _ := proof.Trim(p()); return q },
		"Restrict": func() api.Proof { q, _ := proof.Restrict(f, p(), []int{-9}); return q },
		"Lift":     func() api.Proof { q, _ := proof.Lift(f, []int{-9}, under); return q },
		"Lift all": func() api.Proof { q, _ := proof.Lift(f, nil, p()); return q },
		"Join":     func() api.Proof { q, _ := proof.Join(p(), proofOf(input(0, -1)), 1); return q },
		"Get":      func() api.Proof { q, _ := proof.Get(bytes); return q },
	} {
		want := make()
		if len(want.Lines) < 9 {
			t.Errorf("%s: %v", name, want)
		}
		for i := range want.Lines {
			q := make()
			overwrite(q.Lines[i].Lits, -999)
			for j, l := range q.Lines {
				if j != i && !slices.Equal(l.Lits, want.Lines[j].Lits) {
					t.Errorf("%s: line %d changes with line %d", name, j, i)
				}
			}
		}
	}
}
