package circ_test

import (
	"slices"
	"testing"

	"skolem/api"
	"skolem/circ"
)

// P5.4

// valueOf returns the value of a literal of a net.
func valueOf(t *testing.T, n api.Net, lit int, a []int) bool {
	n.Out = lit
	got, e := circ.Eval(n, a)
	if e != api.OK {
		t.Fatalf("Eval(%v, %v) = %v", n, a, e)
	}
	return got
}

// TestOnlySupport: the value of a literal depends only on the variables in its Support.
func TestOnlySupport(t *testing.T) {
	dice := dice(80)
	fewer := 0
	for range 1500 {
		n := dice.net(6, 6)
		inputs := sorted(numbersOf(n.Prefix))
		for _, v := range namesOf(n) {
			on, e := circ.Support(n, v)
			if e != api.OK {
				t.Fatalf("Support(%v, %d) = %v", n, v, e)
			}
			if len(on) < len(inputs) {
				fewer++
			}
			for _, a := range assignmentsOf(inputs) {
				of := slices.DeleteFunc(slices.Clone(a), func(lit int) bool { return !slices.Contains(on, max(lit, -lit)) })
				if valueOf(t, n, v, a) != valueOf(t, n, v, of) {
					t.Errorf("the value of %d in %v under %v and %v", v, n, a, of)
				}
			}
		}
	}
	if fewer < 2000 {
		t.Errorf("%d are on fewer variables", fewer)
	}
}

// TestSimpleKeeps: Simple does not change the value under any assignment, and Simple of its result is the same.
func TestSimpleKeeps(t *testing.T) {
	dice := dice(81)
	smaller := 0
	for range 5000 {
		n := dice.net(6, 12)
		s, e := circ.Simple(n)
		if e != api.OK || !circ.May(s) {
			t.Fatalf("Simple(%v) = %v, %v", n, s, e)
		}
		if again, e := circ.Simple(s); !circ.Same(again, s) || e != api.OK {
			t.Errorf("Simple(%v) = %v, then %v, %v", n, s, again, e)
		}
		for _, a := range assignmentsOf(sorted(numbersOf(n.Prefix))) {
			if valueOf(t, n, n.Out, a) != valueOf(t, s, s.Out, a) {
				t.Errorf("the values of %v and %v under %v", n, s, a)
			}
		}
		if literalsIn(s.Gates) < literalsIn(n.Gates) && len(s.Gates) > 1 {
			smaller++
		}
	}
	if smaller < 500 {
		t.Errorf("%d are smaller", smaller)
	}
}

// TestCofactorIsTheNet: the value of a cofactor is that of the net under the assignment with the fixed variables added.
func TestCofactorIsTheNet(t *testing.T) {
	dice := dice(82)
	kept := 0
	for range 10000 {
		n := dice.net(7, 14)
		inputs := sorted(numbersOf(n.Prefix))
		fixed := dice.assignment(inputs)
		c, e := circ.Cofactor(n, fixed)
		if e != api.OK || !circ.May(c) {
			t.Fatalf("Cofactor(%v, %v) = %v, %v", n, fixed, c, e)
		}
		if again, e := circ.Simple(c); !circ.Same(again, c) || e != api.OK {
			t.Errorf("Simple of the cofactor %v: %v, %v", c, again, e)
		}
		left := numbersOf(c.Prefix)
		for _, a := range assignmentsOf(inputs) {
			if slices.ContainsFunc(fixed, func(lit int) bool { return slices.Contains(a, -lit) }) {
				continue
			}
			of := slices.DeleteFunc(slices.Clone(a), func(lit int) bool { return !slices.Contains(left, max(lit, -lit)) })
			if valueOf(t, n, n.Out, a) != valueOf(t, c, c.Out, of) {
				t.Errorf("the values of %v under %v, and of %v under %v", n, a, c, of)
			}
		}
		if len(left) > 0 && len(left) < len(inputs) && len(c.Gates) > 1 {
			kept++
		}
	}
	if kept < 250 {
		t.Errorf("%d keep gates and variables", kept)
	}
}

// TestComposition: the value of a composition is that of n under the assignment in which v has the value of m.
func TestComposition(t *testing.T) {
	dice := dice(83)
	for range 5000 {
		n := dice.net(6, 6)
		inputs := numbersOf(n.Prefix)
		if len(inputs) == 0 {
			continue
		}
		v := inputs[dice.below(len(inputs))]
		others := sorted(slices.DeleteFunc(slices.Clone(inputs), func(w int) bool { return w == v }))
		m := dice.netOver(others, 4)
		c, e := circ.Compose(n, v, m)
		if e != api.OK || !circ.May(c) || !slices.Equal(sorted(numbersOf(c.Prefix)), others) {
			t.Fatalf("Compose(%v, %d, %v) = %v, %v", n, v, m, c, e)
		}
		for _, a := range assignmentsOf(others) {
			lit := -v
			if valueOf(t, m, m.Out, a) {
				lit = v
			}
			with := append(slices.Clone(a), lit)
			slices.SortFunc(with, func(x, y int) int { return max(x, -x) - max(y, -y) })
			if valueOf(t, n, n.Out, with) != valueOf(t, c, c.Out, a) {
				t.Errorf("the values of %v under %v, and of %v under %v", n, with, c, a)
			}
		}
	}
}

// TestOrderOfOrder: gates that are in order stay so, and what Order returns is in order.
func TestOrderOfOrder(t *testing.T) {
	dice := dice(84)
	for range 5000 {
		n := dice.net(6, 9)
		ins := numbersOf(n.Prefix)
		if got, e := circ.Order(ins, n.Gates); !sameGates(got, n.Gates) || e != api.OK {
			t.Errorf("Order(%v, %v) = %v, %v", ins, n.Gates, got, e)
		}
		l := mixed(&dice, n.Gates)
		got, e := circ.Order(ins, l)
		if e != api.OK || !circ.May(net(n.Prefix, n.Out, got...)) {
			t.Errorf("Order(%v, %v) = %v, %v", ins, l, got, e)
		}
		for _, g := range l {
			if !slices.ContainsFunc(got, func(h api.Gate) bool { return sameGates(gates(g), gates(h)) }) {
				t.Errorf("Order(%v, %v) = %v", ins, l, got)
			}
		}
	}
}
