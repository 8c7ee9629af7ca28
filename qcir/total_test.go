package qcir_test

import (
	"slices"
	"strings"
	"testing"

	"skolem/api"
	"skolem/circ"
	"skolem/qcir"
)

// P0.1, and the rules R3, R5 and R6, for all functions of the layer.

// weirdLists returns lists of all sorts.
func weirdLists() [][]int {
	l := [][]int{nil, {}, {1, 2}, {1, -2}, {2, 1, 2}, variables(1, 1024), variables(1, 1025), variables(1, 65537), make([]int, 200001), slices.Repeat([]int{-7, 7}, 100001)}
	for _, x := range oddInts {
		l = append(l, []int{x}, []int{1, x}, []int{x, x}, []int{1, x, 2})
	}
	return l
}

// TestTotalOfNets prints nets of all sorts: nothing panics, and exactly the valid ones have a text.
func TestTotalOfNets(t *testing.T) {
	lists := weirdLists()
	for i, l := range lists {
		for j := i % 4; j < len(lists); j += 4 {
			out := oddInts[(i+j)%len(oddInts)]
			kind := api.GateKind((i*7 + j) % 6)
			for _, n := range []api.Net{
				{Prefix: prefix(some(l...)), Gates: []api.Gate{{Var: out, Kind: kind, In: lists[j]}}, Out: out},
				{Prefix: prefix(some(l...), all(lists[j]...)), Out: out},
				{Prefix: prefix(all(l...)), Gates: []api.Gate{{Var: 70, Kind: kind, In: lists[j]}, and(71, 70)}, Out: 71},
			} {
				s, e := qcir.Print(n)
				want := api.OK
				if !circ.May(n) {
					want = api.ErrArg
				}
				if e != want || (s == "") != (e != api.OK) {
					t.Errorf("Print(%.200v) = %.80q, %v", n, s, e)
				}
			}
		}
	}
}

// weirdTexts returns texts of all sorts, none of which has a net.
func weirdTexts() []string {
	texts := []string{"", "\x00", "\xff\xfe", "\n\n\n", strings.Repeat("(", 100000), strings.Repeat("exists(1)\n", 10000), strings.Repeat("-", 100000), strings.Repeat("output(1)\n", 3)}
	for _, s := range strange {
		texts = append(texts, s, s+"\n", "exists(1)\n"+s, "output("+s+")\n", "exists("+s+")", strings.Repeat(s+" ", 1000), strings.Repeat(s+"\n", 1000))
		for _, r := range strange {
			texts = append(texts, s+" "+r, "output("+s+r+")\n", "exists(1)\noutput(1)\n "+s+" "+r+" 0", "exists(1)\noutput(1)\n9 = and("+s+r+") x", "exists("+s+","+r+")")
		}
	}
	return texts
}

// TestTotalOfTexts reads texts of all sorts, and texts that are cut off or have a byte of them changed.
func TestTotalOfTexts(t *testing.T) {
	for _, s := range weirdTexts() {
		if n, line, e := qcir.Read(s); !isNothing(n) || line < 0 || line > strings.Count(s, "\n")+1 || e == api.OK {
			t.Errorf("Read(%.80q) = %.80v, %d, %v", s, n, line, e)
		}
	}
	s := "#x\n free(12)\nexists(3,1)\nforall(2)\n\noutput(-15)\n15 = ite(-1, 14, 2)\n14=xor(12,-3)\n"
	for i := range len(s) {
		sameAsNaive(t, s[:i])
		sameAsNaive(t, s[i:])
		for _, b := range "\x00\n\r\t 0159(),=-#aex\xff" {
			sameAsNaive(t, s[:i]+string(b)+s[i+1:])
			sameAsNaive(t, s[:i]+string(b)+s[i:])
		}
		sameAsNaive(t, s[:i]+s[i+1:])
		sameAsNaive(t, s[:i]+"\xff"+s[i+1:])
	}
}

// roomy returns the list as the beginning of a longer memory, whose other elements are marks.
func roomy(l ...int) (list, memory []int) {
	memory = append(slices.Clone(l), 77, 78, 79, 80)
	return memory[:len(l)], memory
}

// TestArguments: Print does not change its argument, or use what stands behind it.
func TestArguments(t *testing.T) {
	var wholes, before [][]int
	list := func(l ...int) []int {
		part, memory := roomy(l...)
		wholes, before = append(wholes, memory), append(before, slices.Clone(memory))
		return part
	}
	p := []api.Block{some(list(9, 5)...), all(list(2, 1)...), some(list(3)...), all(88), some(89)}
	gates := []api.Gate{and(10, list(9, -5)...), or(11, list()...), xor(12, list(10, -11)...), and(90, 1), or(91, 90)}
	n := api.Net{Prefix: p[:3], Gates: gates[:3], Out: -12}
	want := "#QCIR-14\nexists(9, 5)\nforall(2, 1)\nexists(3)\noutput(-12)\n10 = and(9, -5)\n11 = or()\n12 = xor(10, -11)\n"
	for range 2 {
		if s, e := qcir.Print(n); s != want || e != api.OK {
			t.Errorf("%q, %v", s, e)
		}
	}
	n.Out = 13
	if s, e := qcir.Print(n); s != "" || e != api.ErrArg {
		t.Errorf("%q, %v", s, e)
	}
	if !slices.EqualFunc(wholes, before, func(a, b []int) bool { return slices.Equal(a, b) }) {
		t.Errorf("%v", wholes)
	}
	if !same(net(p, 1, gates...), net(prefix(some(9, 5), all(2, 1), some(3), all(88), some(89)), 1, and(10, 9, -5), or(11), xor(12, 10, -11), and(90, 1), or(91, 90))) {
		t.Errorf("%v, %v", p, gates)
	}
}

// overwrite destroys a list together with the capacity behind it.
func overwrite(l []int) {
	l = l[:cap(l)]
	for i := range l {
		l[i] = -999
	}
}

// TestResultsShareNothing: when one list of a net is overwritten, the others stay, and so does what another call returns.
func TestResultsShareNothing(t *testing.T) {
	for _, text := range []string{
		"free(1)/exists(2, 3)/forall(4)/forall(5)/exists(6)/exists()/exists(7)/output(8)/8 = or(9, 10)/9 = and(1, 2)/10 = and(1, 2)/11 = xor(1, 2)/12 = ite(1, 2, 3)",
		"exists(1)/output(1)/2 = and(1)/3 = and(1)/4 = and(1)",
		"forall(1)/output(1)",
	} {
		call := func() (lists [][]int) {
			n, _, _ := qcir.Read(divided(text))
			for _, b := range n.Prefix {
				lists = append(lists, b.Vars)
			}
			for _, g := range n.Gates {
				lists = append(lists, g.In)
			}
			return lists
		}
		want, kept := call(), call()
		for i := range want {
			lists := call()
			overwrite(lists[i])
			for j, l := range lists {
				if j != i && !slices.Equal(l, want[j]) {
					t.Errorf("%q: list %d changes with list %d", text, j, i)
				}
			}
		}
		if !slices.EqualFunc(kept, want, func(a, b []int) bool { return slices.Equal(a, b) }) {
			t.Errorf("%q: what was returned before is %v", text, kept)
		}
	}
}

// TestAgain: equal calls return equal results, whatever was called between them.
func TestAgain(t *testing.T) {
	dice := dice(86)
	var texts []string
	for range 500 {
		texts = append(texts, dice.written(dice.spoil(dice.lines())))
	}
	type result struct {
		n    api.Net
		line int
		e    api.Errno
	}
	var first []result
	for _, s := range texts {
		n, line, e := qcir.Read(s)
		first = append(first, result{n, line, e})
	}
	for i, s := range texts {
		if n, line, e := qcir.Read(s); !same(n, first[i].n) || line != first[i].line || e != first[i].e {
			t.Errorf("Read(%q) = %v, %d, %v, and %v before", s, n, line, e, first[i])
		}
	}
}
