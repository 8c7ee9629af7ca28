package asg_test

import (
	"slices"
	"testing"

	"skolem/api"
	"skolem/asg"
)

// P0.1, and the rules R3, R5 and R6, for all functions of the layer.

// weird returns lists of all sorts: normal, not normal, with integers that are no literals, empty, long.
func weird() [][]int {
	l := [][]int{nil, {}, variables(1, 65536), variables(1, 65537), make([]int, 200001), slices.Repeat([]int{-7, 7}, 100001)}
	l = append(l, normalLists(1, 2, 65535, 65536)...)
	return slices.Concat(l, loose, listsOf(2, oddInts...))
}

// TestTotal calls each function with all sorts of arguments: none panics, and with an error there is no other result.
func TestTotal(t *testing.T) {
	all := weird()
	cnfs := [][][]int{nil, {}, {nil}, {{}}, all, all[:2], all[6:50], make([][]int, 20000), make([][]int, 20001), slices.Repeat([][]int{{1, 2}}, 20000), slices.Repeat([][]int{nil, {1}, {0}}, 9000), slices.Repeat([][]int{all[2]}, 3), slices.Repeat([][]int{all[2]}, 4)}
	for i, a := range all {
		for _, x := range oddInts {
			asg.Value(a, x)
			if p, e := asg.Point(a, uint64(x)); e != api.OK && p != nil {
				t.Errorf("Point of list %d: %v with %v", i, p, e)
			}
		}
		for _, b := range all[:100] {
			asg.Clause(a, b)
			asg.Cube(a, b)
			asg.Agree(a, b)
			if n, e := asg.Number(a, b); e != api.OK && n != 0 {
				t.Errorf("Number of list %d: %d with %v", i, n, e)
			}
		}
		if i%40 > 0 && i > 25 {
			continue
		}
		for _, f := range cnfs {
			asg.Cnf(a, f)
			asg.Under(a, f)
			if l, conflict, e := asg.Units(f, a); e != api.OK && (l != nil || conflict != -1) {
				t.Errorf("Units from list %d: %v, %d with %v", i, l, conflict, e)
			}
			if l, ok, e := asg.Close(f, a); (e != api.OK || !ok) && (l != nil || ok) {
				t.Errorf("Close from list %d: %v, %v with %v", i, l, ok, e)
			}
		}
	}
}

// roomy returns the list as the beginning of a longer memory, whose other elements are marks.
func roomy(l ...int) (list, memory []int) {
	memory = append(slices.Clone(l), 77, 78, 79, 80)
	return memory[:len(l)], memory
}

// overwrite destroys a result together with the capacity behind it.
func overwrite(l []int) {
	l = l[:cap(l)]
	for i := range l {
		l[i] = -999
	}
}

// TestMemory: no function changes its arguments or what stands behind them, and no result shares memory with them.
func TestMemory(t *testing.T) {
	a, behindA := roomy(1, -4)
	b, behindB := roomy(-1, 2, 3)
	c, behindC := roomy(-3, 5)
	vars, behindVars := roomy(2, 4, 6)
	listsBehind := [][]int{b, c, {99}, {99}}
	f := listsBehind[:2]
	wholes := [][]int{behindA, behindB, behindC, behindVars, listsBehind[2], listsBehind[3]}
	var before [][]int
	for _, w := range wholes {
		before = append(before, slices.Clone(w))
	}
	results := map[string]func() []int{
		"Under, first list":  func() []int { return asg.Under(a, f)[0] },
		"Under, second list": func() []int { return asg.Under(a, f)[1] },
		"Close":              func() []int { l, _, _ := asg.Close(f, []int{1, -2}); return l },
		"Close, no step":     func() []int { l, _, _ := asg.Close(f, a); return l },
		"Close, no clauses":  func() []int { l, _, _ := asg.Close(nil, a); return l },
		"Point":              func() []int { l, _ := asg.Point(vars, 7); return l },
	}
	for name, call := range results {
		first := call()
		kept := slices.Clone(first)
		if len(first) == 0 {
			t.Errorf("%s: empty", name)
		}
		overwrite(first)
		asg.Units(f, a)
		asg.Cnf(a, f)
		asg.Clause(a, b)
		asg.Cube(b, a)
		asg.Agree(a, c)
		asg.Value(a, 4)
		asg.Number(vars, []int{2, 4, 6})
		for i, w := range wholes {
			if !slices.Equal(w, before[i]) {
				t.Fatalf("%s: argument %d is %v behind the call", name, i, w)
			}
		}
		if again := call(); !slices.Equal(again, kept) {
			t.Errorf("%s: %v, then %v", name, kept, again)
		}
	}
	if len(listsBehind) != 4 || !slices.Equal(listsBehind[2], []int{99}) || !slices.Equal(listsBehind[0], []int{-1, 2, 3}) {
		t.Errorf("the clauses are %v", listsBehind)
	}
}

// TestUnderMemory: the lists that Under returns share no memory with one another.
func TestUnderMemory(t *testing.T) {
	one := []int{2, -7}
	f := [][]int{one, {1}, one, {}, {1, -2, 3}, one}
	want := [][]int{{2, -7}, {1}, {2, -7}, {}, {1, -2, 3}, {2, -7}}
	for i := range want {
		u := asg.Under([]int{9}, f)
		overwrite(u[i])
		_ = append(u[i], 55)
		for j, l := range u {
			if j != i && !slices.Equal(l, want[j]) {
				t.Errorf("list %d changes with list %d: %v", j, i, l)
			}
		}
		if !sameLists(f, want) {
			t.Errorf("the argument is %v", f)
		}
	}
}
