package qcir_test

import (
	"slices"
	"strings"
	"testing"

	"skolem/api"
	"skolem/circ"
	"skolem/qcir"
)

// P8.3

// thereAndBack prints a net and reads it; it returns the text.
func thereAndBack(t *testing.T, n api.Net) string {
	t.Helper()
	s, e := qcir.Print(n)
	if e != api.OK {
		t.Errorf("Print(%.200v): %v", n, e)
	}
	if m, line, e := qcir.Read(s); !same(m, n) || line != 0 || e != api.OK {
		t.Errorf("Read(%.200q) = %.200v, %d, %v", s, m, line, e)
	}
	return s
}

func TestThereAndBack(t *testing.T) {
	dice := dice(82)
	for range 10000 {
		thereAndBack(t, dice.net(10, 12))
	}
	p := prefix(some(1))
	for _, n := range []api.Net{example(), longest(), net(p, 1), net(nil, -3, or(3)), net(p, 2, and(2, slices.Repeat([]int{-1, 1}, 100000)...)), net(prefix(some(variables(1, 1024)...)), -1024)} {
		thereAndBack(t, n)
	}
}

// TestChapterText: the text of the chapter's first example is what Print returns.
func TestChapterText(t *testing.T) {
	want := "#QCIR-14\nexists(1, 2)\nforall(3)\noutput(-5)\n4 = and(1, -3)\n5 = xor(4, 2)\n"
	if s := thereAndBack(t, example()); s != want {
		t.Errorf("%q", s)
	}
}

// lawful checks what holds of every text: what is read is valid, and its own text has the same net.
func lawful(t *testing.T, s string) bool {
	t.Helper()
	n, line, e := qcir.Read(s)
	if e != api.OK {
		return false
	}
	if !circ.May(n) || line != 0 {
		t.Errorf("Read(%q) = %v, %d", s, n, line)
	}
	own := thereAndBack(t, n)
	if m, _, _ := qcir.Read(own); !same(m, n) {
		t.Errorf("Read(%q) = %v, and of its own text: %v", s, n, m)
	}
	return true
}

func TestLawsOfAllSorts(t *testing.T) {
	dice := dice(83)
	read := 0
	for range 20000 {
		lines := dice.lines()
		for range dice.below(3) {
			lines = dice.spoil(lines)
		}
		if lawful(t, dice.written(lines)) {
			read++
		}
	}
	if read < 5000 {
		t.Errorf("%d texts are read", read)
	}
	for _, c := range readings() {
		if !lawful(t, divided(c.text)) {
			t.Errorf("%s is not read", c.text)
		}
	}
}

// TestSpacesAndComments: what is added between the tokens and lines of the text of a net does not change the net.
func TestSpacesAndComments(t *testing.T) {
	dice := dice(84)
	for range 5000 {
		n := dice.net(8, 8)
		text := naivePrint(n)
		var lines [][]string
		for _, l := range strings.Split(text, "\n")[1:] {
			lines = append(lines, tokens.FindAllString(l, -1))
		}
		for _, s := range []string{dice.written(lines), strings.ReplaceAll(text, "\n", "\n\n"), strings.ReplaceAll(text, "\n", "  \n"), strings.ReplaceAll(text, "\n", "\n#\n"), strings.ReplaceAll(text, " ", ""), strings.TrimSuffix(text, "\n")} {
			if m, line, e := qcir.Read(s); !same(m, n) || line != 0 || e != api.OK {
				t.Errorf("Read(%q) = %v, %d, %v", s, m, line, e)
			}
		}
	}
}

// assignmentsOf returns all assignments of the variables of a prefix.
func assignmentsOf(p []api.Block) [][]int {
	var vars []int
	for _, b := range p {
		vars = append(vars, b.Vars...)
	}
	slices.Sort(vars)
	out := [][]int{nil}
	for _, v := range vars {
		for _, a := range out {
			out = append(out, append(slices.Clone(a), v))
		}
	}
	return out
}

// TestOrderOfGates: gate lines in another order make a net that has the same value, and the same gates.
func TestOrderOfGates(t *testing.T) {
	dice := dice(85)
	for range 3000 {
		n := dice.net(5, 8)
		lines := naiveLines(n)
		from := len(lines) - len(n.Gates)
		s := strings.Join(slices.Concat(lines[:from], mixed(&dice, lines[from:])), "\n")
		m, line, e := qcir.Read(s)
		if line != 0 || e != api.OK || !slices.Equal(sortedLines(m), sortedLines(n)) {
			t.Errorf("Read(%q) = %v, %d, %v", s, m, line, e)
		}
		for _, a := range assignmentsOf(n.Prefix) {
			want, _ := circ.Eval(n, a)
			if is, e := circ.Eval(m, a); is != want || e != api.OK {
				t.Errorf("%q under %v: %v, %v", s, a, is, e)
			}
		}
	}
}

func sortedLines(n api.Net) []string { return slices.Sorted(slices.Values(naiveLines(n))) }
