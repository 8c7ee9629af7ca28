package dimacs_test

import (
	"slices"
	"strings"
	"testing"

	"skolem/api"
	"skolem/dimacs"
	"skolem/prefix"
)

// P7.3

// thereAndBack writes a Qbf and reads it.
func thereAndBack(t *testing.T, q api.Qbf) {
	t.Helper()
	s, e := dimacs.Write(q)
	if e != api.OK {
		t.Errorf("Write(%.200v): %v", q, e)
	}
	if p, line, e := dimacs.Read(s); !sameQbf(p, q) || line != 0 || e != api.OK {
		t.Errorf("Read(%.200q) = %.200v, %d, %v", s, p, line, e)
	}
}

// thereAndBackDeps writes a Dqbf and reads it.
func thereAndBackDeps(t *testing.T, d api.Dqbf) {
	t.Helper()
	s, e := dimacs.WriteDeps(d)
	if e != api.OK {
		t.Errorf("WriteDeps(%.200v): %v", d, e)
	}
	if c, line, e := dimacs.ReadDeps(s); !sameDqbf(c, d) || line != 0 || e != api.OK {
		t.Errorf("ReadDeps(%.200q) = %.200v, %d, %v", s, c, line, e)
	}
}

func TestThereAndBack(t *testing.T) {
	dice := dice(72)
	for range 10000 {
		thereAndBack(t, dice.qbf(14))
		thereAndBackDeps(t, dice.dqbf(14))
	}
	q, d := largest()
	thereAndBack(t, q)
	thereAndBackDeps(t, d)
	for _, f := range [][][]int{nil, {{}}, {{}, {}}} {
		thereAndBack(t, qbf(nil, f...))
		thereAndBackDeps(t, dqbf(nil, nil, f...))
	}
}

// lawful checks what holds of every text: what is read is valid, and ReadDeps returns the Dqbf of the Qbf, or the same error; the text of what is read, read again, is the same.
func lawful(t *testing.T, s string) bool {
	t.Helper()
	d, at, f := dimacs.ReadDeps(s)
	if f == api.OK && !prefix.MayDqbf(d) {
		t.Errorf("ReadDeps(%q) = %v", s, d)
	}
	if f == api.OK {
		thereAndBackDeps(t, d)
	}
	q, line, e := dimacs.Read(s)
	if e == api.OK && !prefix.MayQbf(q) {
		t.Errorf("Read(%q) = %v", s, q)
	}
	if e == api.OK {
		thereAndBack(t, q)
	}
	hasDeps := slices.ContainsFunc(strings.Split(s, "\n"), func(l string) bool { return strings.HasPrefix(strings.Trim(l, " \t"), "d") })
	if hasDeps {
		return f == api.OK
	}
	if want, _ := prefix.Dqbf(q); !sameDqbf(d, want) || at != line || f != e {
		t.Errorf("ReadDeps(%q) = %v, %d, %v, and Read: %v, %d, %v", s, d, at, f, q, line, e)
	}
	return e == api.OK
}

func TestLawsOfAllSorts(t *testing.T) {
	dice := dice(73)
	read := 0
	for range 20000 {
		lines := dice.lines([]string{"ae", "aed"}[dice.below(2)])
		for range dice.below(3) {
			lines = dice.spoil(lines)
		}
		if lawful(t, dice.written(lines)) {
			read++
		}
	}
	if read < 5000 {
		t.Errorf("%d texts are read", read)
	}
	for _, c := range readings() {
		if !lawful(t, divided(c.text)) {
			t.Errorf("%s is not read", c.text)
		}
	}
}

// TestCanonical: what is read from the text of a formula has that text.
func TestCanonical(t *testing.T) {
	dice := dice(74)
	for range 2000 {
		s, _ := dimacs.Write(dice.qbf(12))
		q, _, _ := dimacs.Read(s)
		if u, e := dimacs.Write(q); u != s || e != api.OK {
			t.Errorf("Write of Read of %q: %q, %v", s, u, e)
		}
		s, _ = dimacs.WriteDeps(dice.dqbf(12))
		d, _, _ := dimacs.ReadDeps(s)
		if u, e := dimacs.WriteDeps(d); u != s || e != api.OK {
			t.Errorf("WriteDeps of ReadDeps of %q: %q, %v", s, u, e)
		}
	}
}
