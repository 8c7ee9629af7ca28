package proof_test

import (
	"slices"
	"testing"

	"skolem/api"
	"skolem/proof"
)

// P10.2: Trim and Core.

// trimmed holds Trim and Core against the definition.
func trimmed(t *testing.T, p api.Proof) (api.Proof, []int) {
	t.Helper()
	q, e := proof.Trim(p)
	if want, err := naiveTrim(p); !same(q, want) || e != err {
		t.Errorf("Trim(%v) = %v, %v, not %v, %v", p, q, e, want, err)
	}
	core, e := proof.Core(p)
	if want, err := naiveCore(p); !slices.Equal(core, want) || e != err {
		t.Errorf("Core(%v) = %v, %v, not %v, %v", p, core, e, want, err)
	}
	return q, core
}

func TestTrim(t *testing.T) {
	_, lines := example()
	junk := api.Line{Rule: api.RuInput, A: -7, B: 5, Piv: -3, Lits: []int{0, 0, 70000}}
	for name, c := range map[string]struct {
		p, want []api.Line
		core    []int
	}{
		"all are needed":                  {lines[:5], lines[:5], []int{0, 1, 2}},
		"one input":                       {lines[:1], lines[:1], []int{0}},
		"a last line that is an input":    {lines[:6], []api.Line{lines[5]}, []int{3}},
		"the last of equal lines":         {[]api.Line{input(4, 1), input(4, 1), input(4, 1)}, []api.Line{input(4, 1)}, []int{4}},
		"equal lines that are needed":     {[]api.Line{input(4, 1), input(4, 1), resolve(0, 1, 1)}, []api.Line{input(4, 1), input(4, 1), resolve(0, 1, 1)}, []int{4}},
		"one line twice":                  {[]api.Line{input(3), input(4, 1), resolve(1, 1, 1, 9)}, []api.Line{input(4, 1), resolve(0, 0, 1, 9)}, []int{4}},
		"one line twice, again":           {[]api.Line{input(3), resolve(0, 0, 0), resolve(0, 0, 0), resolve(2, 2, 0)}, []api.Line{input(3), resolve(0, 0, 0), resolve(1, 1, 0)}, []int{3}},
		"a line that is used by two":      {[]api.Line{input(9), input(3), input(2), resolve(1, 2, 5), resolve(3, 1, 6), resolve(2, 4, 7)}, []api.Line{input(3), input(2), resolve(0, 1, 5), resolve(2, 0, 6), resolve(1, 3, 7)}, []int{2, 3}},
		"the others are not needed":       {[]api.Line{input(9), input(3), resolve(0, 1, 5), input(2), resolve(2, 3, 1), resolve(1, 3, 6)}, []api.Line{input(3), input(2), resolve(0, 1, 6)}, []int{2, 3}},
		"clauses in descending order":     {[]api.Line{input(9), input(5), input(7), input(5), resolve(0, 1, 1), resolve(2, 3, 1), resolve(4, 5, 1)}, []api.Line{input(9), input(5), input(7), input(5), resolve(0, 1, 1), resolve(2, 3, 1), resolve(4, 5, 1)}, []int{5, 7, 9}},
		"no proof: an input that is none": {[]api.Line{junk}, []api.Line{junk}, []int{-7}},
		"no proof: its B is not its own":  {[]api.Line{input(1), junk, {Rule: api.RuInput, A: 1, B: 1, Piv: 1}}, []api.Line{{Rule: api.RuInput, A: 1, B: 1, Piv: 1}}, []int{1}},
		"no proof: its numbers stay":      {[]api.Line{input(1), junk, input(2, 2, 2), resolve(2, 1, -9, 0)}, []api.Line{junk, input(2, 2, 2), resolve(1, 0, -9, 0)}, []int{-7, 2}},
		"no proof: clauses as odd as an int": {[]api.Line{input(oddInts[12]), input(oddInts[0]), resolve(0, 1, oddInts[1], oddInts...)},
			[]api.Line{input(oddInts[12]), input(oddInts[0]), resolve(0, 1, oddInts[1], oddInts...)}, []int{oddInts[0], oddInts[12]}},
	} {
		p, core := trimmed(t, proofOf(c.p...))
		if !same(p, proofOf(c.want...)) || !slices.Equal(core, c.core) {
			t.Errorf("%s: %v, %v", name, p, core)
		}
	}
}

// disordered returns lists of lines that are not in order, and what is wrong with them.
func disordered() map[string]api.Proof {
	one := []api.Line{input(0, 1), input(1, -1), resolve(0, 1, 1)}
	all := map[string]api.Proof{"no lines": {}, "an empty list": {Lines: []api.Line{}}, "cubes": {Cubes: true, Lines: one}, "no lines of cubes": {Cubes: true}, "one line more than MaxLines": proofOf(slices.Repeat(one[:1], 1000001)...)}
	for name, l := range map[string]api.Line{
		"no rule": {}, "a reduction": {Rule: api.RuReduce, A: 0, Lits: []int{1}}, "another rule": {Rule: 4}, "the last rule": {Rule: 255},
		"A is negative": resolve(-1, 1, 1), "B is negative": resolve(0, -1, 1), "A is the line itself": resolve(3, 1, 1), "B is the line itself": resolve(0, 3, 1), "A is later": resolve(4, 1, 1), "B is later": resolve(0, 4, 1),
		"A is too great": resolve(9, 1, 1), "B is too great": resolve(0, 9, 1), "A is the least int": resolve(oddInts[0], 1, 1), "B is the least int": resolve(0, oddInts[0], 1), "A is the greatest int": resolve(oddInts[12], 1, 1), "B is the greatest int": resolve(0, oddInts[12], 1),
	} {
		all[name+", last"] = proofOf(append(one[:3:3], l)...)
		all[name+", and is not needed"] = proofOf(append(one[:3:3], l, input(0, 1), input(1, -1))...)
		all[name+", and is needed"] = proofOf(append(one[:3:3], l, input(1, -1), resolve(3, 4, 1))...)
	}
	for rule := range 256 {
		if r := api.Rule(rule); r != api.RuInput && r != api.RuResolve {
			all["a line of another rule"+string(rune('0'+rule))] = proofOf(one[0], api.Line{Rule: r, Lits: []int{1}}, one[1])
		}
	}
	all["the first line is a resolvent"] = proofOf(resolve(0, 0, 1), input(0, 1))
	all["the first line is a resolvent, alone"] = proofOf(resolve(0, 0, 1))
	all["the first line is a resolvent of what follows"] = proofOf(resolve(1, 2, 1), one[0], one[1])
	return all
}

func TestNotInOrder(t *testing.T) {
	for name, p := range disordered() {
		if naiveInOrder(p) {
			t.Errorf("%s: in order by definition", name)
		}
		if q, e := proof.Trim(p); !isNothing(q) || e != api.ErrArg {
			t.Errorf("Trim, %s: %v, %v", name, q, e)
		}
		if core, e := proof.Core(p); len(core) > 0 || e != api.ErrArg {
			t.Errorf("Core, %s: %v, %v", name, core, e)
		}
	}
}

// TestSmallLists holds Trim and Core against the definition for all lists of up to three of some lines.
func TestSmallLists(t *testing.T) {
	lines := []api.Line{input(1), input(-1, 4), {Rule: api.RuInput, A: 0, B: 7, Piv: 7}, {Rule: api.RuReduce}, {}}
	for a := -1; a <= 3; a++ {
		for b := -1; b <= 3; b++ {
			lines = append(lines, resolve(a, b, a-b, 5, a, b))
		}
	}
	for n := range 4 {
		for _, s := range sequences(n, lines) {
			trimmed(t, proofOf(s...))
		}
	}
	for _, s := range sequences(5, []api.Line{input(1), input(0), resolve(0, 1, 1), resolve(1, 2, 2), resolve(3, 3, 0), resolve(2, 0, 3)}) {
		trimmed(t, proofOf(s...))
	}
}

// TestAnyLists holds Trim and Core against the definition for longer lists, of lines that are in order and are no proof.
func TestAnyLists(t *testing.T) {
	d := dice(103)
	shorter := 0
	for range 3000 {
		p := d.joined(1 + d.below(40))
		if q, _ := trimmed(t, p); len(q.Lines) < len(p.Lines) {
			shorter++
		}
	}
	if shorter < 1000 {
		t.Errorf("%d are shorter", shorter)
	}
}

// TestTrimAtTheLimit: MaxLines lines, of which all are needed, or two, or one.
func TestTrimAtTheLimit(t *testing.T) {
	lines := make([]api.Line, 1000000)
	for i := range lines {
		lines[i] = resolve(i-1, i-2, 1)
	}
	lines[0], lines[1] = input(8), input(-8)
	p, e := proof.Trim(proofOf(lines...))
	if len(p.Lines) != 1000000 || e != api.OK || !same(p, proofOf(lines...)) {
		t.Errorf("%d lines, %v", len(p.Lines), e)
	}
	lines[999999].A, lines[999999].B = 1, 0
	p, e = proof.Trim(proofOf(lines...))
	if !same(p, proofOf(input(8), input(-8), resolve(1, 0, 1))) || e != api.OK || cap(p.Lines) > 10 {
		t.Errorf("%d lines, room for %d, %v", len(p.Lines), cap(p.Lines), e)
	}
	for i := range lines {
		lines[i] = input(1000000-i/2, i)
	}
	p, e = proof.Trim(proofOf(lines...))
	core, err := proof.Core(proofOf(lines...))
	if !same(p, proofOf(input(500001, 999999))) || e != api.OK || !slices.Equal(core, []int{500001}) || err != api.OK {
		t.Errorf("%v, %v, %v, %v", p, e, core, err)
	}
	for i := 500000; i < 1000000; i++ {
		lines[i] = resolve(i-1, i-500000, 0)
	}
	lines[500000].A = 0
	core, err = proof.Core(proofOf(lines...))
	if !slices.Equal(core, variables(750001, 1000000)) || err != api.OK {
		t.Errorf("%d clauses, %v", len(core), err)
	}
}
