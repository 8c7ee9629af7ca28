package lits_test

import (
	"slices"
	"testing"

	"skolem/api"
	"skolem/lits"
)

// P1.4

func someIn(a, l []int) bool {
	return slices.ContainsFunc(l, func(x int) bool { return slices.Contains(a, x) })
}

// TestResolventFollows: an assignment that makes a literal of both clauses true makes one of the resolvent true.
func TestResolventFollows(t *testing.T) {
	lists := normalLists(1, 2, 3)
	resolved := 0
	for _, a := range lists {
		for _, b := range lists {
			for v := 1; v <= 3; v++ {
				r, e := lits.Resolve(a, b, v)
				if e != api.OK {
					continue
				}
				resolved++
				for _, under := range lists {
					if someIn(under, a) && someIn(under, b) && !someIn(under, r) {
						t.Errorf("under %v, a literal of %v and one of %v is true, but none of %v", under, a, b, r)
					}
				}
			}
		}
	}
	if resolved == 0 {
		t.Error("there is no resolvent")
	}
}

// TestStruckIsResolvent: if Strike finds x, the resolvent on its variable is b without x.
func TestStruckIsResolvent(t *testing.T) {
	lists := normalLists(1, 2, 3, 4)
	struck := 0
	for _, a := range lists {
		for _, b := range lists {
			x := lits.Strike(a, b)
			if x == 0 {
				continue
			}
			struck++
			with, against := b, a
			if x < 0 {
				with, against = a, b
			}
			r, e := lits.Resolve(with, against, lits.Var(x))
			want := slices.DeleteFunc(slices.Clone(b), func(y int) bool { return y == x })
			if !lits.Has(b, x) || e != api.OK || !slices.Equal(r, want) || !slices.Equal(lits.Without(b, lits.Var(x)), want) {
				t.Errorf("Strike(%v, %v) = %d, but the resolvent is %v, %v", a, b, x, r, e)
			}
		}
	}
	if struck == 0 {
		t.Error("nothing is struck")
	}
}

// TestTotalOrder: Compare is reflexive on equal lists only, antisymmetric and transitive.
func TestTotalOrder(t *testing.T) {
	some := append(listsOf(2, -9223372036854775808, -65537, -2, 0, 2, 9223372036854775807), normalLists(1, 2, 3)...)
	for _, a := range some {
		for _, b := range some {
			c := lits.Compare(a, b)
			if c < -1 || c > 1 || (c == 0) != slices.Equal(a, b) || lits.Compare(b, a) != -c {
				t.Errorf("Compare(%v, %v) = %d, and %d the other way round", a, b, c, lits.Compare(b, a))
			}
			for _, d := range some {
				if c <= 0 && lits.Compare(b, d) <= 0 && lits.Compare(a, d) > 0 {
					t.Errorf("%v, %v and %v are in a circle", a, b, d)
				}
			}
		}
	}
}
