package proof_test

import (
	"slices"
	"testing"

	"skolem/api"
	"skolem/proof"
)

// P10.2: Join.

// joined holds Join against the definition.
func joined(t *testing.T, p, q api.Proof, piv int) (api.Proof, api.Errno) {
	t.Helper()
	j, e := proof.Join(p, q, piv)
	if want, err := naiveJoin(p, q, piv); !same(j, want) || e != err {
		t.Errorf("Join(%v, %v, %d) = %v, %v, not %v, %v", p, q, piv, j, e, want, err)
	}
	return j, e
}

func TestJoin(t *testing.T) {
	p := proofOf(input(4, 9), input(0, 1, 2), resolve(1, 0, 3, 1, 2))
	q := proofOf(input(1, -1, 2, 3), input(2, -2), resolve(0, 1, 2, -1, 3))
	odd := proofOf(api.Line{Rule: api.RuInput, A: -5, B: 6, Piv: 7, Lits: []int{0, 0}}, resolve(0, 0, -4, -1, 65536))
	for name, c := range map[string]struct {
		p, q, want api.Proof
		piv        int
	}{
		"on 1":                           {p, q, proofOf(input(4, 9), input(0, 1, 2), resolve(1, 0, 3, 1, 2), input(1, -1, 2, 3), input(2, -2), resolve(3, 4, 2, -1, 3), resolve(2, 5, 1, 2, 3)), 1},
		"lines of one input":             {proofOf(input(3, 5)), proofOf(input(2, -5)), proofOf(input(3, 5), input(2, -5), resolve(0, 1, 5)), 5},
		"the first does not contain it":  {p, q, p, 3},
		"the other does not contain it":  {p, q, q, 2},
		"both do not":                    {p, q, p, 4},
		"both do not, the greatest":      {p, q, p, 65536},
		"the first has it negative":      {q, p, q, 1},
		"both have it":                   {p, p, p, 1},
		"both have it negative":          {q, q, q, 1},
		"the first is empty":             {proofOf(input(7)), q, proofOf(input(7)), 1},
		"the other is empty":             {p, proofOf(input(7)), proofOf(input(7)), 1},
		"both are":                       {proofOf(input(7)), proofOf(input(8)), proofOf(input(7)), 1},
		"lines before that are no proof": {p, odd, proofOf(input(4, 9), input(0, 1, 2), resolve(1, 0, 3, 1, 2), odd.Lines[0], resolve(3, 3, -4, -1, 65536), resolve(2, 4, 1, 2, 65536)), 1},
		"an empty resolvent":             {proofOf(input(0, 65536)), proofOf(input(1, -65536)), proofOf(input(0, 65536), input(1, -65536), resolve(0, 1, 65536)), 65536},
		"a first part without resolvent": {proofOf(input(0, -2)), proofOf(input(0, 2)), proofOf(input(0, -2)), 2},
		"the last one has both signs of what is no piv of the first": {proofOf(input(0, 3)), proofOf(input(0, -1, -3)), proofOf(input(0, 3)), 1},
	} {
		if j, e := joined(t, c.p, c.q, c.piv); !same(j, c.want) || e != api.OK {
			t.Errorf("%s: %v, %v", name, j, e)
		}
	}
}

func TestJoinRefuses(t *testing.T) {
	p, q := proofOf(input(0, 1, 2)), proofOf(input(1, -1, 2))
	refused := func(name string, p, q api.Proof, piv int, err api.Errno) {
		t.Helper()
		if j, e := proof.Join(p, q, piv); !isNothing(j) || e != err {
			t.Errorf("%s: %v, %v", name, j, e)
		}
	}
	for _, piv := range oddInts {
		if piv < 1 || piv > 65536 {
			refused("no variable", p, q, piv, api.ErrArg)
			refused("no variable, and no resolvent", p, proofOf(input(1, -1, -2)), piv, api.ErrArg)
		}
	}
	for name, bad := range disordered() {
		for _, piv := range []int{0, 1, 2, 7} {
			refused(name+", in front", bad, q, piv, api.ErrArg)
			refused(name+", behind", p, bad, piv, api.ErrArg)
			refused(name+", twice", bad, bad, piv, api.ErrArg)
		}
	}
	for _, l := range loose {
		for _, piv := range []int{1, 2, 3, 65536} {
			refused("a last line that is not normal, in front", proofOf(input(0, l...)), q, piv, api.ErrArg)
			refused("a last line that is not normal, behind", p, proofOf(input(0, l...)), piv, api.ErrArg)
			joined(t, proofOf(input(0, l...), input(1, 1, 2, 3)), proofOf(input(0, l...), input(1, -1, -3)), piv)
		}
	}
	for _, c := range []struct {
		a, b []int
		piv  int
	}{{[]int{1, 2}, []int{-1, -2}, 1}, {[]int{1, 2}, []int{-1, -2}, 2}, {[]int{1, -2}, []int{-1, 2}, 1}, {[]int{1, 65536}, []int{-1, -65536}, 1}, {[]int{1, 3, 65536}, []int{-1, 2, -65536}, 65536}} {
		refused("no resolvent", proofOf(input(0, c.a...)), proofOf(input(0, c.b...)), c.piv, api.ErrState)
	}
}

// TestSmallJoins holds Join against the definition for all short lists as last lines.
func TestSmallJoins(t *testing.T) {
	some := append(normalLists(1, 2, 3), []int{2, 1}, []int{1, -1}, []int{0}, []int{3, 3})
	seen := map[api.Errno]int{}
	for _, a := range some {
		for _, b := range some {
			for piv := -1; piv <= 4; piv++ {
				_, e := joined(t, proofOf(input(0, a...)), proofOf(input(1, 7), resolve(0, 0, 0, b...)), piv)
				seen[e]++
			}
		}
	}
	if seen[api.OK] == 0 || seen[api.ErrState] == 0 || seen[api.ErrArg] == 0 || len(seen) != 3 {
		t.Errorf("%v", seen)
	}
}

// TestAnyJoins holds Join against the definition for longer lists.
func TestAnyJoins(t *testing.T) {
	d := dice(104)
	seen := map[api.Errno]int{}
	lengths := 0
	for range 4000 {
		vars := variables(1, 4)
		p := append(d.joined(1+d.below(10)).Lines, api.Line{Rule: api.RuInput, A: d.odd(), B: d.odd(), Lits: d.clauseOf(d.below(5), vars)})
		q := append(d.joined(1+d.below(10)).Lines, resolve(0, 0, d.odd(), d.clauseOf(d.below(5), vars)...))
		j, e := joined(t, proofOf(p...), proofOf(q...), 1+d.below(4))
		seen[e]++
		if len(j.Lines) > max(len(p), len(q)) {
			lengths++
		}
	}
	if seen[api.OK] < 500 || seen[api.ErrState] < 100 || lengths < 100 {
		t.Errorf("%v, %d are joined", seen, lengths)
	}
}

// TestJoinAtTheLimit: MaxLines lines, and one more; that there is no resolvent comes first.
func TestJoinAtTheLimit(t *testing.T) {
	p := slices.Repeat([]api.Line{input(0, 1, 2)}, 1000000)
	q := slices.Repeat([]api.Line{input(1, -1, 2)}, 1000000)
	none := slices.Repeat([]api.Line{input(1, -1, -2)}, 1000000)
	q[1] = resolve(0, 0, 8, -1, 2)
	for _, n := range []int{1, 2, 499999, 500000, 999997, 999998, 999999, 1000000} {
		for _, m := range []int{999998 - n, 999999 - n, 1000000 - n, 1000000} {
			if m < 1 {
				continue
			}
			j, e := proof.Join(proofOf(p[:n]...), proofOf(q[:m]...), 1)
			if n+m+1 > 1000000 {
				if !isNothing(j) || e != api.ErrLong {
					t.Errorf("%d and %d lines: %d, %v", n, m, len(j.Lines), e)
				}
			} else if len(j.Lines) != n+m+1 || e != api.OK || !same(proofOf(j.Lines[n+m:]...), proofOf(resolve(n-1, n+m-1, 1, 2))) || m > 1 && j.Lines[n+1].A != n {
				t.Errorf("%d and %d lines: %d, %v", n, m, len(j.Lines), e)
			}
			if j, e := proof.Join(proofOf(p[:n]...), proofOf(none[:m]...), 1); !isNothing(j) || e != api.ErrState {
				t.Errorf("%d and %d lines without resolvent: %d, %v", n, m, len(j.Lines), e)
			}
			if j, e := proof.Join(proofOf(p[:n]...), proofOf(none[:m]...), 3); len(j.Lines) != n || e != api.OK {
				t.Errorf("%d and %d lines without 3: %d, %v", n, m, len(j.Lines), e)
			}
			if j, e := proof.Join(proofOf(p[:n]...), proofOf(none[:m]...), 0); !isNothing(j) || e != api.ErrArg {
				t.Errorf("%d and %d lines on 0: %d, %v", n, m, len(j.Lines), e)
			}
		}
	}
}
