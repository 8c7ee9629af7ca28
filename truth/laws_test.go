package truth_test

import (
	"slices"
	"testing"

	"skolem/api"
	"skolem/prefix"
	"skolem/truth"
)

// P4.4

// TestQbfAndDqbf: Qbf of a formula is Dqbf of its Dqbf, if that is not too large.
func TestQbfAndDqbf(t *testing.T) {
	dice := dice(60)
	tried := 0
	for range 6000 {
		q := dice.qbf(10)
		d, e := prefix.Dqbf(q)
		if e != api.OK || !prefix.SameDqbf(d, dqbfOf(q)) {
			t.Fatalf("the Dqbf of %v: %v, %v", q, d, e)
		}
		want, _ := truth.Qbf(q)
		got, e := truth.Dqbf(d)
		if len(d.Univ) > 8 || bitsOf(d.Exist) > 16 {
			if got != api.Unknown || e != api.ErrLong {
				t.Errorf("Dqbf(%v) = %v, %v", d, got, e)
			}
			continue
		}
		tried++
		if got != want || e != api.OK {
			t.Errorf("Dqbf(%v) = %v, %v, and Qbf %v", d, got, e, want)
		}
	}
	if tried < 1000 {
		t.Errorf("%d are small enough", tried)
	}
}

// TestExactlyIfFalse: a formula is false exactly if tables of the universal player win against it, which those of Herbrand do.
func TestExactlyIfFalse(t *testing.T) {
	dice := dice(61)
	for range 4000 {
		q := dice.qbf(7)
		value, _ := truth.Qbf(q)
		rows := universalRows(q.Prefix)
		if l, e := truth.Herbrand(q); e == api.OK {
			if ok, e := truth.Loses(q, l); !ok || e != api.OK || value != api.False {
				t.Errorf("Loses(%v, %v) = %v, %v, and Qbf %v", q, l, ok, e, value)
			}
		}
		if bitsOf(rows) > 6 {
			continue
		}
		found := slices.ContainsFunc(bitLists(bitsOf(rows)), func(bits []bool) bool {
			ok, _ := truth.Loses(q, cut(rows, bits))
			return ok
		})
		if found != (value == api.False) {
			t.Errorf("tables win against %v: %v, and Qbf %v", q, found, value)
		}
	}
}

// TestExactlyIfTrue: a Dqbf is true exactly if tables win, of which Skolem returns the first ones.
func TestExactlyIfTrue(t *testing.T) {
	dice := dice(62)
	for range 1500 {
		d := dice.dqbf(8, 16)
		value, _ := truth.Dqbf(d)
		l, e := truth.Skolem(d)
		if (e == api.OK) != (value == api.True) {
			t.Errorf("Skolem(%v) = %v, %v, and Dqbf %v", d, l, e, value)
		}
		if e == api.OK {
			if ok, e := truth.Wins(d, l); !ok || e != api.OK {
				t.Errorf("Wins(%v, %v) = %v, %v", d, l, ok, e)
			}
		}
	}
}

// P4.5

// TestMoreAndFewer: more dependencies, and fewer clauses, do not make a true Dqbf false.
func TestMoreAndFewer(t *testing.T) {
	dice := dice(63)
	kept, gained := 0, 0
	for range 6000 {
		d := dice.dqbf(8, 12)
		more := d
		more.Exist = slices.Clone(d.Exist)
		for i, r := range d.Exist {
			more.Exist[i].On = slices.Compact(slices.Sorted(slices.Values(slices.Concat(r.On, dice.part(d.Univ, 3)))))
		}
		if dice.below(2) == 0 && len(d.Clauses) > 0 {
			at := dice.below(len(d.Clauses))
			more.Clauses = slices.Concat(d.Clauses[:at], d.Clauses[at+1:])
		}
		before, _ := truth.Dqbf(d)
		after, e := truth.Dqbf(more)
		if e == api.ErrLong {
			continue
		}
		if before == api.True && after != api.True {
			t.Errorf("%v: %v; %v: %v", d, before, more, after)
		}
		if before == api.True {
			kept++
		} else if after == api.True {
			gained++
		}
	}
	if kept < 500 || gained < 100 {
		t.Errorf("%d stay true, %d become true", kept, gained)
	}
}

// TestFurtherIn: an existential variable that comes later, and fewer clauses, do not make a true Qbf false.
func TestFurtherIn(t *testing.T) {
	dice := dice(64)
	kept, gained := 0, 0
	for range 10000 {
		q := dice.qbf(8)
		at := dice.below(max(1, len(q.Prefix)-1))
		if at+1 >= len(q.Prefix) || !q.Prefix[at].Exists {
			continue
		}
		p := slices.Clone(q.Prefix)
		p[at], p[at+1] = p[at+1], p[at]
		p, _ = prefix.Join(p)
		later := api.Qbf{Prefix: p, Clauses: q.Clauses[:len(q.Clauses)-dice.below(min(2, len(q.Clauses)+1))]}
		before, _ := truth.Qbf(q)
		after, _ := truth.Qbf(later)
		if before == api.True && after != api.True {
			t.Errorf("%v: %v; %v: %v", q, before, later, after)
		}
		if before == api.True {
			kept++
		} else if after == api.True {
			gained++
		}
	}
	if kept < 300 || gained < 100 {
		t.Errorf("%d stay true, %d become true", kept, gained)
	}
}
