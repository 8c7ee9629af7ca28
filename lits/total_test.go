package lits_test

import (
	"slices"
	"testing"

	"skolem/api"
	"skolem/lits"
)

// P0.1, and the rules R3, R5 and R6, for all functions of the layer.

// weird returns lists of all sorts: normal, not normal, with integers that are no literals, empty, long.
func weird() [][]int {
	l := [][]int{nil, {}, variables(1, 65536), variables(1, 65537), make([]int, 200001), slices.Repeat([]int{-7, 7}, 100001)}
	l = append(l, listsOf(2, oddInts...)...)
	return append(l, normalLists(1, 2, 65535, 65536)...)
}

// TestTotal calls each function with all sorts of arguments: none panics, and with an error there is no other result.
func TestTotal(t *testing.T) {
	all := weird()
	for i, a := range all {
		for _, x := range oddInts {
			lits.Var(x)
			lits.Has(a, x)
			lits.Without(a, x)
		}
		lits.May(a)
		lits.Neg(a)
		if n, e := lits.Norm(a); e != api.OK && n != nil {
			t.Errorf("Norm of list %d: %v with %v", i, n, e)
		}
		s, e := lits.Text(a)
		if e != api.OK && s != "" {
			t.Errorf("Text of list %d: %q with %v", i, s, e)
		}
		if l, e := lits.Read(s); e != api.OK && l != nil {
			t.Errorf("Read of %q: %v with %v", s, l, e)
		}
		if i >= 100 {
			continue
		}
		for j, b := range all[:100] {
			if l, e := lits.Join(a, b); e != api.OK && l != nil {
				t.Errorf("Join of lists %d and %d: %v with %v", i, j, l, e)
			}
			for _, v := range []int{oddInts[0], -1, 0, 1, 65536, oddInts[len(oddInts)-1]} {
				if l, e := lits.Resolve(a, b, v); e != api.OK && l != nil {
					t.Errorf("Resolve of lists %d and %d on %d: %v with %v", i, j, v, l, e)
				}
			}
			lits.Sub(a, b)
			lits.Strike(a, b)
			lits.Within(a, b)
			lits.Compare(a, b)
		}
	}
	for _, f := range [][][]int{nil, {}, {nil}, {{}}, all, all[:2], make([][]int, 20001), slices.Repeat([][]int{{1, 2}}, 20000), slices.Repeat([][]int{nil, {1}, {0}}, 9000)} {
		lits.Vars(f)
		if may := lits.MayCnf(f); !may && lits.Sort(f) != nil {
			t.Error("Sort of what is no CNF")
		}
	}
}

// roomy returns the list as the beginning of a longer memory, whose other elements are marks.
func roomy(l ...int) (list, memory []int) {
	memory = append(slices.Clone(l), 77, 78, 79, 80)
	return memory[:len(l)], memory
}

// overwrite destroys a result together with the capacity behind it.
func overwrite(l []int) {
	l = l[:cap(l)]
	for i := range l {
		l[i] = -999
	}
}

// TestMemory: no function changes its arguments or what stands behind them, and no result shares memory with them.
func TestMemory(t *testing.T) {
	a, behindA := roomy(1, 2, -4)
	b, behindB := roomy(-2, 3, -4)
	vars, behindVars := roomy(4, 1, 4)
	loose, behindLoose := roomy(5, -3, 5, 1)
	wholes := [][]int{behindA, behindB, behindVars, behindLoose}
	var before [][]int
	for _, w := range wholes {
		before = append(before, slices.Clone(w))
	}
	results := map[string]func() []int{
		"Norm":         func() []int { l, _ := lits.Norm(loose); return l },
		"Norm, normal": func() []int { l, _ := lits.Norm(a); return l },
		"Neg":          func() []int { return lits.Neg(a) },
		"Without":      func() []int { return lits.Without(a, 2) },
		"Without none": func() []int { return lits.Without(a, 9) },
		"Within":       func() []int { return lits.Within(a, vars) },
		"Within all":   func() []int { return lits.Within(a, []int{1, 2, 4}) },
		"Join nil":     func() []int { l, _ := lits.Join(a, nil); return l },
		"Join to nil":  func() []int { l, _ := lits.Join(nil, a); return l },
		"Join":         func() []int { l, _ := lits.Join(a, []int{1, 2, 7}); return l },
		"Resolve":      func() []int { l, _ := lits.Resolve(a, b, 2); return l },
		"Vars":         func() []int { return lits.Vars([][]int{a, loose}) },
		"Sort":         func() []int { return lits.Sort([][]int{b, a})[1] },
		"Sort of one":  func() []int { return lits.Sort([][]int{a})[0] },
	}
	for name, call := range results {
		first := call()
		kept := slices.Clone(first)
		if len(first) == 0 {
			t.Errorf("%s: empty", name)
		}
		overwrite(first)
		for i, w := range wholes {
			if !slices.Equal(w, before[i]) {
				t.Fatalf("%s: argument %d is %v behind the call", name, i, w)
			}
		}
		if again := call(); !slices.Equal(again, kept) {
			t.Errorf("%s: %v, then %v", name, kept, again)
		}
	}
	lits.Sub(a, b)
	lits.Strike(a, b)
	lits.Text(a)
	lits.Has(loose, 5)
	lits.Compare(a, b)
	for i, w := range wholes {
		if !slices.Equal(w, before[i]) {
			t.Errorf("argument %d is %v behind all calls", i, w)
		}
	}
}

// TestSortMemory: the lists that Sort returns share no memory with one another, and the order of its argument stays.
func TestSortMemory(t *testing.T) {
	one := []int{2, -7}
	f := [][]int{one, {1}, one, {}, {1, 2}}
	kept := [][]int{{2, -7}, {1}, {2, -7}, {}, {1, 2}}
	want := [][]int{{}, {1}, {1, 2}, {2, -7}}
	for i := range want {
		sorted := lits.Sort(f)
		overwrite(sorted[i])
		_ = append(sorted[i], 55)
		for j, l := range sorted {
			if j != i && !slices.Equal(l, want[j]) {
				t.Errorf("list %d changes with list %d: %v", j, i, l)
			}
		}
		if !sameLists(f, kept) {
			t.Errorf("the argument is %v", f)
		}
	}
}
