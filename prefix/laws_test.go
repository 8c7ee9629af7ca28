package prefix_test

import (
	"slices"
	"testing"

	"skolem/api"
	"skolem/prefix"
)

// P3.4

// TestThereAndBack: Linear of the Dqbf of a Qbf is its prefix, the Vars of each block ascending.
func TestThereAndBack(t *testing.T) {
	dice := dice(40)
	for range 5000 {
		n := dice.below(20)
		q := api.Qbf{Prefix: dice.prefix(n), Clauses: dice.clauses(3, variables(1, n))}
		d, e := prefix.Dqbf(q)
		if e != api.OK || !prefix.MayDqbf(d) {
			t.Fatalf("Dqbf(%v) = %v, %v", q, d, e)
		}
		want := slices.Clone(q.Prefix)
		for i, b := range want {
			want[i].Vars = sorted(b.Vars)
		}
		if p, e := prefix.Linear(d); !prefix.Same(p, want) || e != api.OK {
			t.Errorf("Linear of the Dqbf of %v: %v, %v", q.Prefix, p, e)
		}
	}
}

// TestBackAndThere: the Dqbf of a prefix that Linear returns is the same Dqbf.
func TestBackAndThere(t *testing.T) {
	dice := dice(41)
	linear := 0
	for i := range 10000 {
		d := dice.dqbf(dice.below(14), i%4 > 0)
		p, e := prefix.Linear(d)
		if e != api.OK {
			continue
		}
		linear++
		if again, e := prefix.Dqbf(api.Qbf{Prefix: p, Clauses: d.Clauses}); !prefix.SameDqbf(again, d) || e != api.OK {
			t.Errorf("Dqbf of Linear of %v: %v, %v", d, again, e)
		}
	}
	if linear < 5000 {
		t.Errorf("%d are linear", linear)
	}
}

// TestOneOfTwo: of two variables of different quantifiers exactly one is in On of the other one; the rows of the Dqbf are the same On.
func TestOneOfTwo(t *testing.T) {
	dice := dice(42)
	pairs := 0
	for range 300 {
		p := dice.prefix(dice.below(16))
		d, _ := prefix.Dqbf(api.Qbf{Prefix: p})
		for _, v := range prefix.Vars(p) {
			onV, _ := prefix.On(p, v)
			_, existsV, _ := prefix.Find(p, v)
			if deps, ok := prefix.Deps(d, v); ok != existsV || ok && !slices.Equal(deps, onV) {
				t.Errorf("Deps of %d in %v: %v, %v", v, p, deps, ok)
			}
			for _, w := range prefix.Vars(p) {
				onW, _ := prefix.On(p, w)
				_, existsW, _ := prefix.Find(p, w)
				if slices.Contains(onV, w) != (existsV != existsW && !slices.Contains(onW, v)) {
					t.Errorf("On of %d and of %d in %v: %v, %v", v, w, p, onV, onW)
				}
				pairs++
			}
		}
	}
	if pairs < 1000 {
		t.Errorf("%d pairs", pairs)
	}
}

// TestReduceTwice: Reduce of what Reduce returns is the same, also by a list of blocks that is not valid.
func TestReduceTwice(t *testing.T) {
	dice := dice(43)
	reduced := 0
	for i := range 20000 {
		p := dice.prefix(dice.below(12))
		if i%2 == 0 {
			p = dice.brokenPrefix(dice.brokenPrefix(p))
		}
		var l []int
		for range dice.below(7) {
			l = append(l, dice.number()*(1-2*dice.below(2)))
		}
		for _, cube := range []bool{false, true} {
			once := prefix.Reduce(p, l, cube)
			if len(once) < len(l) {
				reduced++
			}
			if twice := prefix.Reduce(p, once, cube); !slices.Equal(twice, once) || prefix.Last(p, once, !cube) != prefix.Last(p, l, !cube) {
				t.Errorf("Reduce(%v, %v, %v) = %v, then %v", p, l, cube, once, twice)
			}
		}
	}
	if reduced < 1000 {
		t.Errorf("%d are reduced", reduced)
	}
}

// TestJoinOfValid: Join of a valid prefix is the prefix, and what Join, Less, Close and Linear return is valid.
func TestJoinOfValid(t *testing.T) {
	dice := dice(44)
	for range 3000 {
		p := dice.prefix(dice.below(20))
		if got, e := prefix.Join(p); !prefix.Same(got, p) || e != api.OK {
			t.Errorf("Join(%v) = %v, %v", p, got, e)
		}
		less, e := prefix.Less(p, dice.part(dice.mixed(20)))
		if !prefix.May(less) || e != api.OK {
			t.Errorf("Less of %v: %v, %v", p, less, e)
		}
		q, e := prefix.Close(api.Qbf{Prefix: less, Clauses: dice.clauses(3, variables(1, 20))})
		if !prefix.MayQbf(q) || e != api.OK {
			t.Errorf("Close with %v: %v, %v", less, q, e)
		}
		if again, e := prefix.Close(q); !sameQbf(again, q) || e != api.OK {
			t.Errorf("Close of what Close returns, %v: %v, %v", q, again, e)
		}
	}
	for _, p := range anyPrefixes() {
		if got, e := prefix.Join(p); e == api.OK && (!prefix.May(got) || !slices.Equal(numbersOf(got), numbersOf(p))) {
			t.Errorf("Join(%v) = %v", p, got)
		}
	}
}
