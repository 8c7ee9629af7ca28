package asg_test

import (
	"slices"
	"testing"

	"skolem/api"
	"skolem/asg"
)

// P2.4

// models returns the assignments of the variables 1 to n that contain a and satisfy all clauses.
func models(n int, f [][]int, a []int) [][]int {
	var all [][]int
	for number := range uint64(1) << n {
		m, _ := naivePoint(variables(1, n), number)
		if naiveCnf(m, f) == api.True && !slices.ContainsFunc(a, func(x int) bool { return !slices.Contains(m, x) }) {
			all = append(all, m)
		}
	}
	return all
}

// TestStepsFollow: what satisfies all clauses has all literals of the steps, and nothing does if there is a conflict.
func TestStepsFollow(t *testing.T) {
	d := dice(24)
	satisfied, conflicts := 0, 0
	for range 3000 {
		var f [][]int
		for range d.below(12) {
			f = append(f, d.list(3, 6))
		}
		a := d.list(3, 6)
		l, conflict, _ := asg.Units(f, a)
		closed, _, _ := asg.Close(f, a)
		all := models(6, f, a)
		if conflict >= 0 {
			conflicts++
			if len(all) > 0 {
				t.Errorf("Units(%v, %v): conflict %d, but %v satisfies all", f, a, conflict, all[0])
			}
		}
		for _, m := range all {
			satisfied++
			for _, step := range l {
				if !slices.Contains(m, step.Lit) {
					t.Errorf("Units(%v, %v): step %v, but %v satisfies all", f, a, step, m)
				}
			}
			if asg.Cnf(m, f) != api.True || !asg.Agree(m, closed) || len(asg.Under(m, f)) != 0 {
				t.Errorf("%v satisfies %v, but does not agree with %v", m, f, closed)
			}
		}
	}
	if satisfied < 1000 || conflicts < 300 {
		t.Errorf("%d satisfied, %d conflicts", satisfied, conflicts)
	}
}

// TestOrderOfClauses: it changes neither what Close returns nor whether there is a conflict.
func TestOrderOfClauses(t *testing.T) {
	d := dice(5)
	conflicts := 0
	for range 2000 {
		var f [][]int
		for range 1 + d.below(15) {
			f = append(f, d.list(3, 8))
		}
		a := d.list(3, 8)
		closed, ok, _ := asg.Close(f, a)
		if !ok {
			conflicts++
		}
		for range 6 {
			i, j := d.below(len(f)), d.below(len(f))
			f[i], f[j] = f[j], f[i]
			again, fine, e := asg.Close(f, a)
			_, conflict, _ := asg.Units(f, a)
			if !slices.Equal(again, closed) || fine != ok || (conflict < 0) != ok || e != api.OK {
				t.Errorf("Close(%v, %v) = %v, %v in one order, %v, %v in another one", f, a, closed, ok, again, fine)
			}
		}
	}
	if conflicts < 200 || conflicts > 1800 {
		t.Errorf("%d conflicts", conflicts)
	}
}

// TestClosed: from what Close returns, there is no further step, and no clause is false or unit.
func TestClosed(t *testing.T) {
	d := dice(7)
	for range 2000 {
		var f [][]int
		for range d.below(12) {
			f = append(f, d.list(4, 9))
		}
		closed, ok, _ := asg.Close(f, d.list(2, 9))
		if !ok {
			continue
		}
		if l, conflict, e := asg.Units(f, closed); len(l) != 0 || conflict != -1 || e != api.OK {
			t.Errorf("Units(%v, %v) = %v, %d, %v", f, closed, l, conflict, e)
		}
		for _, c := range asg.Under(closed, f) {
			if len(c) < 2 {
				t.Errorf("Under(%v, %v) has %v", closed, f, c)
			}
		}
	}
}

// TestInverse: Point and Number are inverse.
func TestInverse(t *testing.T) {
	d := dice(64)
	for _, k := range []int{0, 1, 2, 5, 10, 31, 32, 33, 62, 63, 64} {
		vars := variables(65536-2*k, 65535-k)
		for i := range 1100 {
			n := uint64(i)
			if k >= 31 && i >= 100 {
				n = uint64(d.below(1<<31)) | uint64(d.below(1<<31))<<(k-31) | uint64(d.below(2))<<(k-1)
			} else if k < 11 && i>>k != 0 {
				break
			}
			a, e := asg.Point(vars, n)
			if e != api.OK || len(a) != k {
				t.Fatalf("Point of %d variables and %d: %v, %v", k, n, a, e)
			}
			if m, e := asg.Number(vars, a); m != n || e != api.OK {
				t.Errorf("Number of %v: %d, %v, not %d", a, m, e, n)
			}
		}
	}
	for _, a := range normalLists(2, 3, 5, 8) {
		var vars []int
		for _, x := range a {
			vars = append(vars, variable(x))
		}
		n, e := asg.Number(vars, a)
		b, g := asg.Point(vars, n)
		if e != api.OK || g != api.OK || !slices.Equal(a, b) {
			t.Errorf("%v has the number %d, %v, of %v, %v", a, n, e, b, g)
		}
	}
}
