package sat_test

import (
	"math"
	"slices"
	"testing"

	"skolem/api"
	"skolem/sat"
)

// P0.1, and the rules R3 and R6, for all functions of the layer.

// weirdLists returns lists of all sorts: normal, not normal, with integers that are no literals, empty, long.
func weirdLists() [][]int {
	l := [][]int{nil, {}, variables(1, 65536), variables(1, 65537), make([]int, 200001), slices.Repeat([]int{-7, 7}, 100001)}
	l = append(l, normalLists(1, 2, 65536)...)
	for _, x := range oddInts {
		l = append(l, []int{x}, []int{1, x}, []int{x, 2})
	}
	return append(l, loose...)
}

// TestTotal calls each function with all sorts of arguments: none panics, and exactly those that May reports have an answer.
func TestTotal(t *testing.T) {
	lists := weirdLists()
	cnfs := [][][]int{nil, {}, {nil}, {{}}, lists, lists[:2], lists[6:33], make([][]int, 20000), make([][]int, 20001), slices.Repeat([][]int{{1, 2}}, 20000), slices.Repeat([][]int{nil, {1}, {0}}, 9000), slices.Repeat(lists[2:3], 3), slices.Repeat(lists[2:3], 4), {lists[2], {-1}}}
	for i, a := range lists {
		for j, f := range append(cnfs, [][]int{a}, [][]int{a, a}, [][]int{{1}, a, {-1}}) {
			for _, budget := range []int64{math.MinInt64, 0, api.MaxBudget, math.MaxInt64} {
				r, e := sat.Solve(f, a, budget)
				want := api.OK
				if !sat.May(f, a) || budget < 0 || budget > api.MaxBudget {
					want = api.ErrArg
				}
				if e != want || e != api.OK && (r.Value != api.Unknown || r.Steps != 0 || !isNothing(r)) {
					t.Errorf("Solve of CNF %d, list %d, %d: %s, %v", j, i, budget, short(r), e)
				}
			}
			for k, x := range oddInts {
				y := oddInts[(i+j+k)%len(oddInts)]
				lines := []api.Line{{Rule: api.RuInput, Lits: a}, {Rule: api.Rule(k % 5), A: x, B: y, Piv: x, Lits: a}, {Rule: api.Rule(y), A: y, Piv: y, Lits: a}, {Rule: api.RuResolve, B: x, Piv: 1}}
				for n := range lines {
					if l, ok := sat.Check(f, api.Proof{Cubes: k%7 == 6, Lines: lines[n:]}); !ok && len(l) > 0 || ok && !slices.Equal(l, lines[3].Lits) {
						t.Errorf("Check of CNF %d, list %d: %v, %v", j, i, l, ok)
					}
				}
			}
		}
	}
}

// roomy returns the list as the beginning of a longer memory, whose other elements are marks.
func roomy(l ...int) (list, memory []int) {
	memory = append(slices.Clone(l), 77, 78, 79, 80)
	return memory[:len(l)], memory
}

// overwrite destroys a list together with the capacity behind it.
func overwrite(l []int) {
	l = l[:cap(l)]
	for i := range l {
		l[i] = -999
	}
}

// TestArguments: no function changes its arguments, or uses what stands behind them.
func TestArguments(t *testing.T) {
	var wholes, before [][]int
	list := func(l ...int) []int {
		part, memory := roomy(l...)
		wholes, before = append(wholes, memory), append(before, slices.Clone(memory))
		return part
	}
	whole := [][]int{list(3, 4), list(-1, 2, 5), list(), list(-3, -4), list(-2), list(3, -4), {88}, {-89}}
	f := whole[:6]
	a := list(1, -5)
	for range 2 {
		if r := held(t, slices.Concat(f[:2], f[3:]), a, 100); r.Value != api.False || !slices.Equal(r.Core, []int{1, -5}) {
			t.Errorf("%v", r)
		}
		if r := held(t, f[:2:2], a, 100); r.Value != api.True || len(r.Model) != 5 {
			t.Errorf("%v", r)
		}
		if r := held(t, f[:2], a, 100); r.Value != api.True || len(r.Model) != 5 {
			t.Errorf("%v", r)
		}
		if r := held(t, f, a, 100); r.Value != api.False || len(r.Core) > 0 {
			t.Errorf("%v", r)
		}
		lines := []api.Line{input(0, f[0]...), {Rule: api.RuInput, A: 5, Lits: list(3, -4)}, {Rule: api.RuResolve, B: 1, Piv: 4, Lits: list(3)}, input(9)}
		if l, ok := sat.Check(f, proof(lines[:3]...)); !ok || !slices.Equal(l, []int{3}) {
			t.Errorf("%v, %v", l, ok)
		}
	}
	if !slices.EqualFunc(wholes, before, func(a, b []int) bool { return slices.Equal(a, b) }) {
		t.Errorf("%v", wholes)
	}
	if !slices.Equal(whole[6], []int{88}) || !slices.Equal(whole[7], []int{-89}) || len(whole[2]) > 0 || !slices.Equal(whole[1], []int{-1, 2, 5}) {
		t.Errorf("%v", whole)
	}
}

// listsIn returns all lists of an answer.
func listsIn(r api.Sat) [][]int {
	l := [][]int{r.Model, r.Core}
	for _, line := range r.Proof.Lines {
		l = append(l, line.Lits)
	}
	return l
}

// TestResultsShareNothing: when one list of an answer is overwritten, the others and the arguments stay, and so does what another call returns.
func TestResultsShareNothing(t *testing.T) {
	for _, c := range []struct {
		f [][]int
		a []int
	}{
		{[][]int{{1, 2}, {-1, 3}, {-2, 3}, {-3, 4}, {-3, -4, -7}}, []int{7}}, {[][]int{{-1, -2}}, []int{1, 2}}, {nil, []int{1, -2, 3}}, {[][]int{{1, 2}, {3}}, []int{-4}}, {holes(3, 2), nil},
	} {
		kept, _ := sat.Solve(c.f, c.a, 100)
		want, _ := sat.Solve(c.f, c.a, 100)
		f, a := slices.Clone(c.f), slices.Clone(c.a)
		for i := range f {
			f[i] = slices.Clone(f[i])
		}
		for i := range listsIn(want) {
			r, _ := sat.Solve(c.f, c.a, 100)
			overwrite(listsIn(r)[i])
			for j, l := range listsIn(r) {
				if j != i && !slices.Equal(l, listsIn(want)[j]) {
					t.Errorf("%v: list %d changes with list %d", c.f, j, i)
				}
			}
		}
		if !same(kept, want) || !slices.Equal(c.a, a) || !slices.EqualFunc(c.f, f, func(a, b []int) bool { return slices.Equal(a, b) }) {
			t.Errorf("%v, %v: %v", c.f, c.a, kept)
		}
		if l, ok := sat.Check(c.f, want.Proof); ok {
			overwrite(l)
			if !same(kept, want) {
				t.Errorf("%v: what Check returned is in the proof", c.f)
			}
		}
	}
}
