package asg_test

import (
	"slices"
	"testing"

	"skolem/api"
	"skolem/asg"
)

// P2.2

// holdUnits holds Units and Close against the definition.
func holdUnits(t *testing.T, f [][]int, a []int) {
	l, conflict, closed, e := naiveUnits(f, a)
	gotL, gotConflict, gotE := asg.Units(f, a)
	if !slices.Equal(gotL, l) || gotConflict != conflict || gotE != e {
		t.Errorf("Units(%v, %v) = %v, %d, %v, not %v, %d, %v", f, a, gotL, gotConflict, gotE, l, conflict, e)
	}
	gotClosed, ok, gotE := asg.Close(f, a)
	if !slices.Equal(gotClosed, closed) || ok != (e == api.OK && conflict < 0) || gotE != e {
		t.Errorf("Close(%v, %v) = %v, %v, %v, not %v, %v", f, a, gotClosed, ok, gotE, closed, e)
	}
}

func TestUnitsExamples(t *testing.T) {
	for _, c := range []struct {
		name     string
		f        [][]int
		a        []int
		l        []api.Step
		conflict int
		closed   []int
	}{
		{"no clauses", nil, nil, nil, -1, nil},
		{"no clauses, some literals", [][]int{}, []int{-4, 65536}, nil, -1, []int{-4, 65536}},
		{"the empty clause", [][]int{nil}, nil, nil, 0, nil},
		{"the empty clause behind others", [][]int{{1, 2}, {}, {}}, nil, nil, 1, nil},
		{"the section's example", [][]int{{1, 2}, {-2}, {-1, 3}}, nil, []api.Step{{Lit: -2, Clause: 1}, {Lit: 1, Clause: 0}, {Lit: 3, Clause: 2}}, -1, []int{1, -2, 3}},
		{"both units", [][]int{{1}, {-1}}, nil, []api.Step{{Lit: 1, Clause: 0}}, 1, nil},
		{"false at the beginning", [][]int{{1, 2}}, []int{-1, -2}, nil, 0, nil},
		{"a unit clause before the false one", [][]int{{3}, {1, 2}}, []int{-1, -2}, []api.Step{{Lit: 3, Clause: 0}}, 1, nil},
		{"a unit clause behind the false one", [][]int{{1, 2}, {3}}, []int{-1, -2}, nil, 0, nil},
		{"unit clauses before the empty one", [][]int{{2}, {-3}, {}}, nil, []api.Step{{Lit: 2, Clause: 0}, {Lit: -3, Clause: 1}}, 2, nil},
		{"a clause that becomes false before the empty one", [][]int{{2}, {-2}, {}}, nil, []api.Step{{Lit: 2, Clause: 0}}, 1, nil},
		{"two that become false", [][]int{{1}, {2, -3}, {-1}, {-1}}, nil, []api.Step{{Lit: 1, Clause: 0}}, 2, nil},
		{"a later clause, then an earlier one", [][]int{{-3, 4}, {-2, 3}, {-1, 2}, {1}}, nil, []api.Step{{Lit: 1, Clause: 3}, {Lit: 2, Clause: 2}, {Lit: 3, Clause: 1}, {Lit: 4, Clause: 0}}, -1, []int{1, 2, 3, 4}},
		{"a clause that becomes unit before one that was", [][]int{{-1, 5}, {1}, {-5}}, nil, []api.Step{{Lit: 1, Clause: 1}, {Lit: 5, Clause: 0}}, 2, nil},
		{"equal clauses", [][]int{{1}, {1}, {1, 2}}, nil, []api.Step{{Lit: 1, Clause: 0}}, -1, []int{1}},
		{"a unit clause that becomes true", [][]int{{1, 2}, {2, 3}, {2, 4}}, []int{-3, -4}, []api.Step{{Lit: 2, Clause: 1}}, -1, []int{2, -3, -4}},
		{"all true", [][]int{{1}, {-2}}, []int{1, -2}, nil, -1, []int{1, -2}},
		{"all open", [][]int{{1, 2}, {-1, -2}}, []int{3}, nil, -1, []int{3}},
		{"sorted behind it", [][]int{{-65536}, {-7}, {1}}, []int{-3, 8}, []api.Step{{Lit: -65536, Clause: 0}, {Lit: -7, Clause: 1}, {Lit: 1, Clause: 2}}, -1, []int{1, -3, -7, 8, -65536}},
	} {
		l, conflict, e := asg.Units(c.f, c.a)
		if !slices.Equal(l, c.l) || conflict != c.conflict || e != api.OK {
			t.Errorf("%s: Units: %v, %d, %v", c.name, l, conflict, e)
		}
		closed, ok, e := asg.Close(c.f, c.a)
		if !slices.Equal(closed, c.closed) || ok != (c.conflict < 0) || e != api.OK {
			t.Errorf("%s: Close: %v, %v, %v", c.name, closed, ok, e)
		}
	}
}

// TestUnitsOfSmallCnfs holds Units and Close against the definition for all CNFs of up to three clauses of two variables, and of two clauses of three, from all assignments.
func TestUnitsOfSmallCnfs(t *testing.T) {
	two, three := normalLists(1, 2), normalLists(1, 2, 3)
	for _, f := range slices.Concat(cnfsOf(0, two), cnfsOf(1, three), cnfsOf(2, three), cnfsOf(3, two), cnfsOf(4, two)) {
		for _, a := range three {
			holdUnits(t, f, a)
		}
	}
}

// TestUnitsOfOtherCnfs does so for larger ones.
func TestUnitsOfOtherCnfs(t *testing.T) {
	d := dice(2)
	conflicts, steps := 0, 0
	for range 20000 {
		vars := 3 + d.below(12)
		var f [][]int
		for range d.below(3 * vars) {
			f = append(f, d.list(4, vars))
		}
		if d.below(3) > 0 {
			f = slices.DeleteFunc(f, func(c []int) bool { return len(c) < 2 })
		}
		a := d.list(5, vars)
		holdUnits(t, f, a)
		l, conflict, _ := asg.Units(f, a)
		steps += len(l)
		if conflict >= 0 {
			conflicts++
		}
	}
	if conflicts < 1000 || conflicts > 19000 || steps < 10000 {
		t.Errorf("%d conflicts, %d steps", conflicts, steps)
	}
}

func TestUnitsOfWrongArguments(t *testing.T) {
	holdError := func(f [][]int, a []int) {
		if l, conflict, e := asg.Units(f, a); len(l) != 0 || conflict != -1 || e != api.ErrArg {
			t.Errorf("Units(%v.., %v) = %v, %d, %v", f[:min(3, len(f))], a[:min(3, len(a))], l, conflict, e)
		}
		if closed, ok, e := asg.Close(f, a); len(closed) != 0 || ok || e != api.ErrArg {
			t.Errorf("Close(%v.., %v) = %v, %v, %v", f[:min(3, len(f))], a[:min(3, len(a))], closed, ok, e)
		}
	}
	for _, a := range append(loose, variables(1, 65537)) {
		for _, f := range [][][]int{nil, {{}}, {{1}, {-1}}, {{5, 4}}} {
			holdError(f, a)
		}
	}
	for _, f := range looseCnfs() {
		holdError(f, nil)
		holdError(f, []int{1})
		holdError(f, []int{0})
	}
}

// TestUnitsAtTheLimits: a chain that goes backwards through MaxClauses clauses, one that goes forwards, and long clauses whose literals become false one by one.
func TestUnitsAtTheLimits(t *testing.T) {
	var down, up [][]int
	for v := 19999; v >= 1; v-- {
		down = append(down, []int{-v, v + 1})
	}
	down = append(down, []int{1})
	up = slices.Clone(down)
	slices.Reverse(up)
	for name, f := range map[string][][]int{"down": down, "up": up} {
		l, conflict, e := asg.Units(f, nil)
		if len(l) != 20000 || conflict != -1 || e != api.OK {
			t.Fatalf("%s: %d steps, %d, %v", name, len(l), conflict, e)
		}
		for i, step := range l {
			if step.Lit != i+1 || !slices.Contains(f[step.Clause], step.Lit) {
				t.Fatalf("%s: step %d is %v", name, i, step)
			}
		}
		if closed, ok, e := asg.Close(f, nil); !slices.Equal(closed, variables(1, 20000)) || !ok || e != api.OK {
			t.Errorf("%s: Close: %d literals, %v, %v", name, len(closed), ok, e)
		}
		if closed, ok, e := asg.Close(f, []int{-20000}); len(closed) != 0 || ok || e != api.OK {
			t.Errorf("%s: Close with a conflict: %d literals, %v, %v", name, len(closed), ok, e)
		}
	}
	wide := slices.Repeat([][]int{variables(1, 19001)}, 9)
	for v := 19000; v >= 1; v-- {
		wide = append(wide, []int{-v})
	}
	l, conflict, e := asg.Units(wide, nil)
	if len(l) != 19001 || l[0] != (api.Step{Lit: -19000, Clause: 9}) || l[18999] != (api.Step{Lit: -1, Clause: 19008}) || l[19000] != (api.Step{Lit: 19001, Clause: 0}) || conflict != -1 || e != api.OK {
		t.Errorf("wide: %d steps, %d, %v", len(l), conflict, e)
	}
	if l, conflict, e = asg.Units(wide, []int{-19001}); len(l) != 19000 || l[18999] != (api.Step{Lit: 1, Clause: 0}) || conflict != 19008 || e != api.OK {
		t.Errorf("wide, with a conflict: %d steps, %d, %v", len(l), conflict, e)
	}
	if closed, ok, e := asg.Close(nil, variables(1, 65536)); len(closed) != 65536 || !ok || e != api.OK {
		t.Errorf("all variables: %d, %v, %v", len(closed), ok, e)
	}
	if closed, ok, e := asg.Close([][]int{{65536}}, negated(variables(1, 65535))); len(closed) != 65536 || closed[65535] != 65536 || !ok || e != api.OK {
		t.Errorf("the last variable: %d, %v, %v", len(closed), ok, e)
	}
}
