package dimacs_test

import (
	"slices"
	"strings"
	"testing"

	"skolem/api"
	"skolem/dimacs"
	"skolem/prefix"
)

// P0.1, and the rules R3, R5 and R6, for all functions of the layer.

// weirdLists returns lists of all sorts.
func weirdLists() [][]int {
	l := [][]int{nil, {}, {1, 2}, {1, -2}, variables(1, 1024), variables(1, 1025), variables(1, 65537), make([]int, 200001), slices.Repeat([]int{-7, 7}, 100001)}
	l = append(l, loose...)
	for _, x := range oddInts {
		l = append(l, []int{x}, []int{1, x}, []int{x, 2}, []int{x, x})
	}
	return l
}

// TestTotalOfFormulas writes formulas of all sorts: nothing panics, and what is not valid has no text.
func TestTotalOfFormulas(t *testing.T) {
	lists := weirdLists()
	for i, l := range lists {
		for j := i % 3; j < len(lists); j += 3 {
			f := [][]int{nil, l, lists[j]}
			for _, p := range [][]api.Block{nil, {{}}, make([]api.Block, 1000), {all(l...)}, {some(l...), all(lists[j]...)}, {all(1, 2), some(l...)}} {
				q := api.Qbf{Prefix: p, Clauses: f[:j%4]}
				if s, e := dimacs.Write(q); (e == api.OK) != prefix.MayQbf(q) || (s == "") != (e != api.OK) || e != api.OK && e != api.ErrArg {
					t.Errorf("Write with lists %d and %d: %.40q, %v", i, j, s, e)
				}
			}
			for _, d := range []api.Dqbf{{Univ: l}, {Univ: l, Exist: rows(row(3, lists[j]...))}, {Univ: ints(1, 2), Exist: rows(row(3, l...), row(oddInts[j%len(oddInts)], lists[j]...))}, {Exist: make([]api.Dep, 1000)}} {
				d.Clauses = f[:j%4]
				if s, e := dimacs.WriteDeps(d); (e == api.OK) != prefix.MayDqbf(d) || (s == "") != (e != api.OK) || e != api.OK && e != api.ErrArg {
					t.Errorf("WriteDeps with lists %d and %d: %.40q, %v", i, j, s, e)
				}
			}
		}
	}
}

// weirdTexts returns texts of all sorts.
func weirdTexts() []string {
	texts := []string{"\x00", "\xff\xfe", "\xef\xbb\xbf", "é", "\n", "\t", " ", "\r\n", strings.Repeat("\x00", 100000), strings.Repeat("\xff", 100000), strings.Repeat(" ", 100000), strings.Repeat("\n", 100000), strings.Repeat("p cnf 1 1\n", 10000), strings.Repeat("-", 100000)}
	for _, s := range strange {
		texts = append(texts, s, s+"\n", "p cnf 2 1\n"+s, "p cnf 2 1\na 1 0\nd 2 "+s+"\n"+s, "p cnf "+s+" "+s, "p "+s+" 2 1\n1 0", strings.Repeat(s+" ", 1000))
		for _, r := range strange {
			texts = append(texts, s+" "+r, "p cnf 2 1\n"+s+" "+r+" 0", "p cnf 2 1\na 1 0\ne 2 0\n1 0\n"+s+"\n"+r, "p cnf "+s+" "+r, "p cnf 9 9\na 1 0\nd "+s+" "+r+" 0")
		}
	}
	return texts
}

// TestTotalOfTexts reads texts of all sorts, and texts that are cut off or have a byte of them changed.
func TestTotalOfTexts(t *testing.T) {
	for _, s := range weirdTexts() {
		q, line, e := dimacs.Read(s)
		if e != api.OK && (!isNothing(q) || line < 1) || e == api.OK && line != 0 {
			t.Errorf("Read(%.80q): %d, %v with %v", s, line, e, q)
		}
		d, line, e := dimacs.ReadDeps(s)
		if e != api.OK && (!isNoDqbf(d) || line < 1) || e == api.OK && line != 0 {
			t.Errorf("ReadDeps(%.80q): %d, %v with %v", s, line, e, d)
		}
	}
	s := "c x\np cnf 12 3\na 1 12 0\ne 3 0\nd 4 12 1 0\n1 -3 0\n-12 4 5 0\n\t0\n"
	for i := range len(s) {
		sameAsNaive(t, s[:i])
		sameAsNaive(t, s[i:])
		for _, b := range "\x00\n\t 0-9acedp\xff" {
			sameAsNaive(t, s[:i]+string(b)+s[i+1:])
			sameAsNaive(t, s[:i]+string(b)+s[i:])
		}
	}
}

// roomy returns the list as the beginning of a longer memory, whose other elements are marks.
func roomy(l ...int) (list, memory []int) {
	memory = append(slices.Clone(l), 77, 78, 79, 80)
	return memory[:len(l)], memory
}

// TestArguments: no function changes its arguments, or uses what stands behind them.
func TestArguments(t *testing.T) {
	var wholes, before [][]int
	list := func(l ...int) []int {
		part, memory := roomy(l...)
		wholes, before = append(wholes, memory), append(before, slices.Clone(memory))
		return part
	}
	p := []api.Block{some(list(9, 5)...), all(list(2, 1)...), some(list(3)...), all(88), some(89)}
	r := []api.Dep{row(3, list(1, 2)...), row(5), row(9, list(1)...), row(90), row(91)}
	univ, f := list(1, 2), [][]int{list(1, -3), list(), list(-5, 9), {99}, {98}}
	q, d := api.Qbf{Prefix: p[:3], Clauses: f[:3]}, api.Dqbf{Univ: univ, Exist: r[:3], Clauses: f[:3]}
	if s, e := dimacs.Write(q); s != "p cnf 9 3\ne 9 5 0\na 2 1 0\ne 3 0\n1 -3 0\n0\n-5 9 0\n" || e != api.OK {
		t.Errorf("%q, %v", s, e)
	}
	if s, e := dimacs.WriteDeps(d); s != "p cnf 9 3\na 1 2 0\nd 3 1 2 0\nd 5 0\nd 9 1 0\n1 -3 0\n0\n-5 9 0\n" || e != api.OK {
		t.Errorf("%q, %v", s, e)
	}
	if !sameLists(wholes, before) || !sameQbf(qbf(p, f...), qbf(blocks(some(9, 5), all(2, 1), some(3), all(88), some(89)), ints(1, -3), nil, ints(-5, 9), ints(99), ints(98))) {
		t.Errorf("%v, %v, %v", wholes, p, f)
	}
	if !sameDqbf(dqbf(univ, r), dqbf(ints(1, 2), rows(row(3, 1, 2), row(5), row(9, 1), row(90), row(91)))) {
		t.Errorf("%v", r)
	}
}

// overwrite destroys a list together with the capacity behind it.
func overwrite(l []int) {
	l = l[:cap(l)]
	for i := range l {
		l[i] = -999
	}
}

// TestResultsShareNothing: when one list of a result is overwritten, the others stay, and so does what another call returns.
func TestResultsShareNothing(t *testing.T) {
	texts := []string{"p cnf 9 4\ne 4 0\na 1 2 0\na 3 0\ne 5 0\n1 4 0\n0\n-9 8 2 0\n1 4 0", "p cnf 9 3\na 1 2 0\nd 5 2 1 0\nd 6 1 2 0\nd 7 0\na 3 0\ne 8 9 0\n1 4 0\n2 4 0\n1 4 0"}
	for _, s := range texts {
		read := func() (lists [][]int) {
			q, _, _ := dimacs.Read(s)
			for _, b := range q.Prefix {
				lists = append(lists, b.Vars)
			}
			return append(lists, q.Clauses...)
		}
		readDeps := func() [][]int {
			d, _, _ := dimacs.ReadDeps(s)
			lists := [][]int{d.Univ}
			for _, r := range d.Exist {
				lists = append(lists, r.On)
			}
			return append(lists, d.Clauses...)
		}
		for _, call := range []func() [][]int{read, readDeps} {
			want := call()
			kept := call()
			for i := range want {
				lists := call()
				overwrite(lists[i])
				for j, l := range lists {
					if j != i && !slices.Equal(l, want[j]) {
						t.Errorf("%q: list %d changes with list %d", s, j, i)
					}
				}
			}
			if !sameLists(kept, want) {
				t.Errorf("%q: what was returned before is %v", s, kept)
			}
		}
	}
}

// TestAgain: equal calls return equal results, whatever was called between them.
func TestAgain(t *testing.T) {
	dice := dice(75)
	var texts []string
	for range 500 {
		texts = append(texts, dice.written(dice.spoil(dice.lines("aed"))))
	}
	type result struct {
		d    api.Dqbf
		line int
		e    api.Errno
	}
	var first []result
	for _, s := range texts {
		d, line, e := dimacs.ReadDeps(s)
		first = append(first, result{d, line, e})
	}
	for i, s := range texts {
		if d, line, e := dimacs.ReadDeps(s); !sameDqbf(d, first[i].d) || line != first[i].line || e != first[i].e {
			t.Errorf("ReadDeps(%q) = %v, %d, %v, and %v before", s, d, line, e, first[i])
		}
	}
}
