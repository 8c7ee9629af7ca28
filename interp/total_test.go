package interp_test

import (
	"slices"
	"sync"
	"testing"

	"skolem/api"
	"skolem/interp"
)

// P0.1, and the rules R1, R3 and R6, for all functions of the layer.

// weirdLists returns lists of all sorts: normal, not normal, with integers that are no literals and no numbers, empty, long.
func weirdLists() [][]int {
	l := [][]int{nil, {}, variables(1, 65536), variables(1, 65537), numbers(0, 19999), numbers(0, 20000), make([]int, 200001), slices.Repeat([]int{-7, 7}, 100001), {0, 1}, {0, 1, 2}, {0, 2}, {2, 65535, 65536}}
	l = append(l, normalLists(1, 2, 65536)...)
	for _, x := range oddInts {
		l = append(l, []int{x}, []int{0, x}, []int{1, x}, []int{x, 2})
	}
	return append(l, loose...)
}

// weirdProofs returns proofs of all sorts, whose lines have some literals.
func weirdProofs(l []int, k int) []api.Proof {
	x, y := oddInts[k%len(oddInts)], oddInts[k*5%len(oddInts)]
	lines := []api.Line{input(0, l...), {Rule: api.RuInput, A: x, B: y, Piv: x, Lits: l}, resolve(0, 1, x, l...), resolve(x, y, 1, l...), {Rule: api.Rule(k % 5), A: y, B: x, Piv: y, Lits: l}, {Rule: api.Rule(y), A: y, Piv: 1, Lits: l}, resolve(1, 0, 1), input(1)}
	all := []api.Proof{{}, {Cubes: true}, {Cubes: true, Lines: lines}, proofOf(append(lines[:3:3], lines[6])...)}
	for n := range lines {
		all = append(all, proofOf(lines[n:]...), proofOf(lines[:n+1]...))
	}
	return all
}

// TestTotal calls each function with all sorts of arguments: none panics, and an error comes alone.
func TestTotal(t *testing.T) {
	lists := weirdLists()
	cnfs := [][][]int{nil, {}, {nil}, {{}}, {nil, nil, nil}, lists[:2], lists[12:39]}
	large := [][][]int{lists, make([][]int, 20000), make([][]int, 20001), slices.Repeat([][]int{{1, 2}}, 20000), slices.Repeat([][]int{nil, {1}, {0}}, 9000), slices.Repeat(lists[2:3], 3), slices.Repeat(lists[2:3], 4), {lists[2], {-1}}}
	count := map[api.Errno]int{}
	for i, a := range lists {
		short := a[:min(3, len(a))]
		for j, f := range append(cnfs, [][]int{a}, [][]int{a, nil}, [][]int{{1}, a, {-1}}, large[i%len(large)]) {
			mayCnf := naiveMayCnf(f)
			for _, left := range [][]int{a, short, nil, {0}} {
				may := mayCnf && naiveMayLeft(f, left)
				if l, e := interp.Shared(f, left); e != api.OK && len(l) > 0 || (e == api.OK) != may {
					t.Errorf("Shared of CNF %d, list %d: %v, %v", j, i, l, e)
				}
				for k, p := range weirdProofs(short, i+j)[(i+j)%16:][:2] {
					want := api.ErrArg
					switch {
					case may && naiveRefutes(f, p):
						want = api.OK
					case may:
						want = api.ErrProof
					}
					for _, fn := range both() {
						g, edge, e := fn.call(f, left, p)
						if e != want || e != api.OK && (!isNothing(g) || edge != 0) {
							t.Errorf("%s of CNF %d, list %d, proof %d: %v, %d, %v, not %v", fn.name, j, i, k, g, edge, e, want)
						}
						count[e]++
					}
				}
			}
		}
	}
	if count[api.OK] < 20 || count[api.ErrProof] < 1000 || count[api.ErrArg] < 1000 {
		t.Errorf("%v", count)
	}
}

// TestNilAndEmpty: nil and empty slices are equivalent.
func TestNilAndEmpty(t *testing.T) {
	for _, f := range [][][]int{{nil, {1}, {-1}}, {{}, {1}, {-1}}} {
		for _, left := range [][]int{nil, {}} {
			for _, lits := range [][]int{nil, {}} {
				p := proofOf(api.Line{Rule: api.RuInput, Lits: lits})
				returned(t, "the empty clause", f, left, p, result{edge: 1}, result{edge: 1})
				p = proofOf(input(1, 1), input(2, -1), api.Line{Rule: api.RuResolve, A: 0, B: 1, Piv: 1, Lits: lits})
				returned(t, "an empty resolvent", f, left, p, result{edge: 1}, result{edge: 1})
				if l, e := interp.Shared(f, left); len(l) != 0 || e != api.OK {
					t.Errorf("%v, %v", l, e)
				}
			}
		}
	}
	for _, left := range [][]int{nil, {}} {
		for _, f := range [][][]int{nil, {}} {
			refused(t, "no lines", f, left, api.Proof{Lines: []api.Line{}}, api.ErrProof)
			refused(t, "nothing", f, left, api.Proof{}, api.ErrProof)
		}
	}
}

// memory hands out lists with other elements behind them, and knows what they were.
type memory struct{ wholes, before [][]int }

func (m *memory) list(l ...int) []int {
	whole := append(slices.Clone(l), 77, 78, 79, 80)
	m.wholes, m.before = append(m.wholes, whole), append(m.before, slices.Clone(whole))
	return whole[:len(l)]
}

// TestArguments: no function changes its arguments, or uses what stands behind them.
func TestArguments(t *testing.T) {
	m := &memory{}
	whole := [][]int{m.list(1, 2), m.list(-1, 3), m.list(-2), m.list(-3), m.list(1, 5), {88}, {-89}}
	lines := []api.Line{{Rule: api.RuInput, A: 0, Lits: m.list(1, 2)}, {Rule: api.RuInput, A: 2, Lits: m.list(-2)}, {Rule: api.RuResolve, A: 0, B: 1, Piv: 2, Lits: m.list(1)}, {Rule: api.RuInput, A: 1, Lits: m.list(-1, 3)}, {Rule: api.RuInput, A: 3, Lits: m.list(-3)}, {Rule: api.RuResolve, A: 3, B: 4, Piv: 3, Lits: m.list(-1)}, {Rule: api.RuResolve, A: 2, B: 5, Piv: 1, Lits: m.list()}, input(99), input(98)}
	kept := slices.Clone(lines)
	f, left, p := whole[:5], m.list(0, 1), proofOf(lines[:7]...)
	p.Lines = lines[:7] // with room behind
	want := result{[]int{1, 2, 3}, [][2]int{{3, 5}, {2, 7}, {9, 11}}, 12}
	for range 2 {
		returned(t, "with room behind", f, left, p, want, want)
		if l := shared(t, f, left); !slices.Equal(l, []int{1, 2, 3}) {
			t.Errorf("%v", l)
		}
		refused(t, "without a line", f, left, proofOf(lines[:6]...), api.ErrProof)
		refused(t, "with a line", f, left, proofOf(lines[:8]...), api.ErrProof)
		refused(t, "without the last clauses", f[:3], left, p, api.ErrProof)
		refused(t, "with a number", f, left[:3], p, api.ErrArg)
	}
	for i, l := range m.wholes {
		if !slices.Equal(l, m.before[i]) {
			t.Errorf("%v, not %v", l, m.before[i])
		}
	}
	if !slices.Equal(whole[5], []int{88}) || !slices.Equal(whole[6], []int{-89}) || !slices.EqualFunc(lines, kept, func(a, b api.Line) bool {
		return a.Rule == b.Rule && a.A == b.A && a.B == b.B && a.Piv == b.Piv && slices.Equal(a.Lits, b.Lits)
	}) {
		t.Errorf("%v, %v", whole, lines)
	}
}

// overwrite destroys a list together with the capacity behind it.
func overwrite[E any](l []E, mark E) {
	l = l[:cap(l)]
	for i := range l {
		l[i] = mark
	}
}

// TestResultsShareNothing: results are new memory. Formulas, proofs and graphs may share theirs, though nobody changes them; here that is done, to see that numbers and variables are shared by none.
func TestResultsShareNothing(t *testing.T) {
	make := func() (f [][]int, left []int, p api.Proof) {
		w := &lines{f: [][]int{{1, 2}, {-1, 3}, {-2}, {-3}, {1, 5}}}
		a := w.on(2, w.in(0), w.in(2))
		w.on(1, a, w.on(3, w.in(1), w.in(3)))
		return w.f, []int{0, 1}, w.proof()
	}
	want := api.Aig{Ins: []int{1, 2, 3}, Ands: [][2]int{{3, 5}, {2, 7}, {9, 11}}}
	for _, fn := range both() {
		f, left, p := make()
		g, edge, e := fn.call(f, left, p)
		overwrite(left, -9)
		if !sameGraph(g, want) || edge != 12 || e != api.OK {
			t.Errorf("%s keeps the numbers: %v, %d, %v", fn.name, g, edge, e)
		}
		f, left, p = make()
		vars, _ := interp.Shared(f, left)
		g, _, _ = fn.call(f, left, p)
		overwrite(g.Ins, -9)
		overwrite(g.Ands, [2]int{-9, -9})
		if !slices.Equal(vars, []int{1, 2, 3}) || !slices.Equal(left, []int{0, 1}) {
			t.Errorf("%s: %v, %v", fn.name, vars, left)
		}
		g, _, _ = fn.call(f, left, p)
		overwrite(vars, -9)
		again, _ := interp.Shared(f, left)
		if !sameGraph(g, want) || !slices.Equal(again, []int{1, 2, 3}) || !slices.Equal(left, []int{0, 1}) {
			t.Errorf("%s and Shared: %v, %v, %v", fn.name, g, again, left)
		}
		if clean, _, _ := make(); !slices.EqualFunc(f, clean, slices.Equal) || !naiveRefutes(clean, p) {
			t.Errorf("%s: %v, %v", fn.name, f, p)
		}
	}
}

// TestAtOnce: calls at the same time do not disturb each other.
func TestAtOnce(t *testing.T) {
	f, p := example()
	var all sync.WaitGroup
	for range 8 {
		all.Go(func() {
			for _, left := range subsets(4) {
				for _, fn := range both() {
					fn.made(t, f, left, p)
				}
				shared(t, f, left)
			}
		})
	}
	all.Wait()
}
