package interp_test

import (
	"slices"
	"testing"

	"skolem/aig"
	"skolem/api"
	"skolem/interp"
	"skolem/proof"
	"skolem/sat"
)

// P11.3

// variablesOf returns the variables of clauses, ascending.
func variablesOf(f [][]int) []int {
	var l []int
	for _, x := range slices.Concat(f...) {
		l = append(l, variable(x))
	}
	slices.Sort(l)
	return slices.Compact(l)
}

// interpolates holds what both functions return to be interpolants, the second one to imply the first one, and the opposite of Make with left and right exchanged; it returns in how many assignments one is true and the other is not, and whether they are constant.
func interpolates(t *testing.T, f [][]int, left []int, p api.Proof) (differ int, constant bool) {
	t.Helper()
	right := others(left, len(f))
	shared, _ := interp.Shared(f, left)
	weak, x, e1 := interp.Make(f, left, p)
	strong, y, e2 := interp.Strong(f, left, p)
	back, z, e3 := interp.Make(f, right, p)
	if e1 != api.OK || e2 != api.OK || e3 != api.OK {
		t.Fatalf("%v, left %v: %v, %v, %v", f, left, e1, e2, e3)
	}
	for _, g := range []api.Aig{weak, strong, back} {
		if !slices.Equal(g.Ins, shared) || !aig.Reduced(g) {
			t.Errorf("%v, left %v: %v has other inputs, or is not reduced", f, left, g)
		}
	}
	seen := map[bool]bool{}
	for _, a := range assignments(variablesOf(f)) {
		i, j, k := value(weak, x, a), value(strong, y, a), value(back, z, a)
		if l := satisfiesAll(a, f, left); l && !i || l && !j {
			t.Errorf("%v, left %v, under %v: %v and %v, but the left clauses hold", f, left, a, i, j)
		}
		if r := satisfiesAll(a, f, right); r && i || r && j {
			t.Errorf("%v, left %v, under %v: %v and %v, but the right clauses hold", f, left, a, i, j)
		}
		if j && !i {
			t.Errorf("%v, left %v, under %v: Strong is true, Make is not", f, left, a)
		}
		if i == k {
			t.Errorf("%v, left %v, under %v: Make is %v, and so it is with left and right exchanged", f, left, a, i)
		}
		if i != j {
			differ++
		}
		seen[i] = true
	}
	return differ, len(seen) < 2
}

// TestInterpolants holds what is returned against the definition of an interpolant over all assignments.
func TestInterpolants(t *testing.T) {
	d := dice(4)
	differ, varied := 0, 0
	held := func(f [][]int, left []int, p api.Proof) {
		t.Helper()
		n, constant := interpolates(t, f, left, p)
		if n > 0 {
			differ++
		}
		if !constant {
			varied++
		}
	}
	for range 150 {
		f, p := d.refutation(d.vars(2 + d.below(5)))
		held(f, d.left(len(f)), p)
		held(f, d.left(len(f)), d.padded(f, p, d.below(20)))
		f, p = d.woven(d.vars(2 + d.below(5)))
		held(f, d.left(len(f)), p)
		held(f, d.left(len(f)), p)
		var left []int
		f, left, p = d.sided(d.vars(4 + d.below(4)))
		held(f, left, p)
	}
	if differ < 100 || varied < 400 {
		t.Errorf("%d differ, %d are not constant", differ, varied)
	}
}

// TestSmallInterpolants: all CNFs of up to three clauses of two variables, and all sides.
func TestSmallInterpolants(t *testing.T) {
	for n := range 4 {
		for _, f := range small(n, variables(1, 2)) {
			for _, p := range refutations(f) {
				for _, left := range subsets(n) {
					interpolates(t, f, left, p)
				}
			}
		}
	}
}

// TestHoles: more assignments; where all clauses are on one side, the interpolant is constant.
func TestHoles(t *testing.T) {
	f := holes(4, 3)
	r, e := sat.Solve(f, nil, api.MaxBudget)
	if r.Value != api.False || e != api.OK {
		t.Fatalf("%v, %v", r.Value, e)
	}
	for _, left := range [][]int{{0, 1, 2, 3}, {0, 1}, numbers(4, 9), {0, 5, 7, 9, 11}} {
		if _, constant := interpolates(t, f, left, r.Proof); constant {
			t.Errorf("left %v: constant", left)
		}
	}
	for _, left := range [][]int{nil, numbers(0, len(f)-1)} {
		if _, constant := interpolates(t, f, left, r.Proof); !constant {
			t.Errorf("left %v: not constant", left)
		}
	}
}

// clausesOf returns clauses by which the edges of a graph have their values, and the literals of some edges; the variables of its Ands are the next ones behind another one.
func clausesOf(g api.Aig, next int, edges ...int) (f [][]int, l []int) {
	first := 1 + len(g.Ins)
	lit := func(edge int) int {
		v := next // the constant
		switch n := edge / 2; {
		case n >= first:
			v = next + 1 + n - first
		case n > 0:
			v = g.Ins[n-1]
		}
		if edge%2 == 1 {
			return -v
		}
		return v
	}
	clause := func(l ...int) {
		slices.SortFunc(l, func(x, y int) int { return variable(x) - variable(y) })
		f = append(f, l)
	}
	clause(-next)
	for i, pair := range g.Ands {
		c, a, b := lit(2*(first+i)), lit(pair[0]), lit(pair[1])
		clause(-c, a)
		clause(-c, b)
		clause(c, -a, -b)
	}
	for _, edge := range edges {
		l = append(l, lit(edge))
	}
	return f, l
}

// never holds some clauses not to have a model in which some edges are true.
func never(t *testing.T, what string, f [][]int, g api.Aig, edges ...int) {
	t.Helper()
	more, l := clausesOf(g, 60000, edges...)
	more = append(more, f...)
	for _, lit := range l {
		more = append(more, []int{lit})
	}
	if r, e := sat.Solve(more, nil, api.MaxBudget); r.Value != api.False || e != api.OK {
		t.Errorf("%s: %v, %v", what, r.Value, e)
	}
}

// TestLargeInterpolants: for more variables it is layer 9 that says that there is no other assignment.
func TestLargeInterpolants(t *testing.T) {
	d := dice(5)
	questions := [][][]int{holes(5, 4), holes(6, 5)}
	for range 10 {
		questions = append(questions, d.cnf(400, 3, variables(1, 60)))
	}
	for i, f := range questions {
		r, _ := sat.Solve(f, nil, api.MaxBudget)
		if r.Value != api.False {
			t.Fatalf("question %d: %v", i, r.Value)
		}
		for _, left := range [][]int{numbers(0, len(f)/2), d.left(len(f)), d.some(len(f), 1, 2)} {
			right := others(left, len(f))
			weak, x, e1 := interp.Make(f, left, r.Proof)
			strong, y, e2 := interp.Strong(f, left, r.Proof)
			back, z, e3 := interp.Make(f, right, r.Proof)
			if e1 != api.OK || e2 != api.OK || e3 != api.OK {
				t.Fatalf("question %d: %v, %v, %v", i, e1, e2, e3)
			}
			part := func(of []int) (l [][]int) {
				for _, n := range of {
					l = append(l, f[n])
				}
				return l
			}
			for _, of := range []result{{weak.Ins, weak.Ands, x}, {strong.Ins, strong.Ands, y}} {
				g := api.Aig{Ins: of.ins, Ands: of.ands}
				never(t, "left, but false", part(left), g, of.edge^1)
				never(t, "right, but true", part(right), g, of.edge)
			}
			all, u, v, _ := aig.Join(weak, []int{x}, strong, []int{y})
			never(t, "Strong, but not Make", nil, all, v[0], u[0]^1)
			all, u, v, _ = aig.Join(weak, []int{x}, back, []int{z})
			never(t, "Make, and exchanged", nil, all, u[0], v[0])
			never(t, "neither Make, nor exchanged", nil, all, u[0]^1, v[0]^1)
		}
	}
}

// TestTrimmed: lines that the last one does not need, and lines that are there again, do not change the values.
func TestTrimmed(t *testing.T) {
	d := dice(6)
	other := 0
	for range 300 {
		f, p := d.woven(d.vars(2 + d.below(5)))
		left := d.left(len(f))
		less, e := proof.Trim(p)
		if e != api.OK {
			t.Fatal(e)
		}
		more := d.padded(f, less, 9)
		for _, fn := range both() {
			g, x, _ := fn.call(f, left, p)
			h, y, _ := fn.call(f, left, less)
			k, z, _ := fn.call(f, left, more)
			if !sameGraph(g, h) || !sameGraph(g, k) {
				other++
			}
			for _, a := range assignments(g.Ins) {
				if is := value(g, x, a); is != value(h, y, a) || is != value(k, z, a) {
					t.Errorf("%s(%v, %v, %v) is another function than that of %v or %v", fn.name, f, left, p, less, more)
				}
			}
		}
	}
	if other < 5 {
		t.Errorf("%d graphs are others", other)
	}
}

// TestReadBack (P0.9): a proof that is written and read has the same interpolants.
func TestReadBack(t *testing.T) {
	d := dice(7)
	for range 100 {
		f, left, p := d.sided(d.vars(4 + d.below(5)))
		b, _ := proof.Put(p)
		q, e := proof.Get(b)
		for _, fn := range both() {
			g, x, e1 := fn.call(f, left, p)
			h, y, e2 := fn.call(f, left, q)
			if !sameGraph(g, h) || x != y || e != api.OK || e1 != api.OK || e2 != api.OK {
				t.Errorf("%s(%v, %v, %v) = %v, %d, then %v, %d", fn.name, f, left, p, g, x, h, y)
			}
		}
	}
}

// TestAgain: equal calls return equal results, whatever was called between them.
func TestAgain(t *testing.T) {
	d := dice(8)
	for range 100 {
		f, left, p := d.sided(d.vars(4 + d.below(5)))
		vars, _ := interp.Shared(f, left)
		var first []result
		for range 4 {
			for _, fn := range both() {
				g, edge, _ := fn.call(f, left, p)
				first = append(first, result{g.Ins, g.Ands, edge})
			}
			if again, _ := interp.Shared(f, left); !slices.Equal(vars, again) {
				t.Errorf("%v, then %v", vars, again)
			}
		}
		for i, r := range first[2:] {
			if was := first[i]; !slices.Equal(r.ins, was.ins) || !slices.Equal(r.ands, was.ands) || r.edge != was.edge {
				t.Errorf("%v, then %v", was, r)
			}
		}
	}
}
