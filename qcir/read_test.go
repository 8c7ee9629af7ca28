package qcir_test

import (
	"strings"
	"testing"

	"skolem/api"
	"skolem/qcir"
)

// P8.2: what texts mean.

// readings returns texts (lines divided by /) and their nets.
func readings() map[string]struct {
	text string
	want api.Net
} {
	one := net(prefix(some(1)), 1)
	return map[string]struct {
		text string
		want api.Net
	}{
		"the chapter's first example":  {"#QCIR-14/exists(1, 2)/forall(3)/output(-5)/4 = and(1, -3)/5 = xor(4, 2)", example()},
		"the chapter's second example": {" free ( 2 )/exists(1)/output(2)", net(prefix(some(2, 1)), 2)},
		"no line feed at the end":      {"exists(1)/output(1)", one},
		"a line feed at the end":       {"exists(1)/output(1)/", one},
		"a last line of spaces":        {"exists(1)/output(1)/  ", one},
		"a last line that is #":        {"exists(1)/output(1)/#", one},
		"blank lines at the end":       {"exists(1)/output(1)////", one},
		"blank lines":                  {"///   /exists(1)// /output(1)/    /", one},
		"comments":                     {"#/exists(1)/# exists(1)/#forall(2)/##/# 0 01 x\t\r\x00\xff é/output(1)/#1 = and()/#output(1)", one},
		"no spaces":                    {"free(2)/exists(1)/forall(3)/output(-5)/5=xor(-4,2)/4=ite(1,-3,2)", net(prefix(some(2, 1), all(3)), -5, ite(4, 1, -3, 2), xor(5, -4, 2))},
		"spaces everywhere":            {" free  (   2 )  / forall  ( 1 , 3  )/output ( - 5 ) /  5   =  or ( - 1 ,  2 , -   3 )  ", net(prefix(some(2), all(1, 3)), -5, or(5, -1, 2, -3))},
		"spaces in empty lists":        {"free( )/exists (  ) /forall()/ output(-4)/4 = or(  )", net(nil, -4, or(4))},
		"each kind":                    {"exists(1)/output(6)/2 = and(1)/3 = or(1, 2)/4 = xor(-1, 3)/5 = ite(-4, 3, -2)/6 = and(5, 5, -1, 1, 5)", net(prefix(some(1)), 6, and(2, 1), or(3, 1, 2), xor(4, -1, 3), ite(5, -4, 3, -2), and(6, 5, 5, -1, 1, 5))},
		"nothing but an output":        {"output(1)/1 = and()", net(nil, 1, and(1))},
		"gates without literals":       {"output(-3)/9 = or()/3 = and()", net(nil, -3, or(9), and(3))},
		"Out of the prefix":            {"forall(9)/output(-9)/3 = and(9)", net(prefix(all(9)), -9, and(3, 9))},
		"Out of a gate in the middle":  {"forall(9)/output(4)/3 = and(9)/4 = or(-3)/5 = xor(3, 4)", net(prefix(all(9)), 4, and(3, 9), or(4, -3), xor(5, 3, 4))},
		"free alone":                   {"free(1)/output(1)", one},
		"free with no variables":       {"free()/exists(1)/output(1)", one},
		"free with many":               {"free(7, 3, 65536)/output(-3)", net(prefix(some(7, 3, 65536)), -3)},
		"free before forall":           {"free(7)/forall(3, 2)/output(-3)", net(prefix(some(7), all(3, 2)), -3)},
		"free before exists":           {"free(7, 1)/exists(3, 2)/forall(4)/output(-3)", net(prefix(some(7, 1, 3, 2), all(4)), -3)},
		"free, nothing, exists":        {"free(7)/forall()/exists(3)/output(-3)", net(prefix(some(7, 3)), -3)},
		"nothing in free, forall":      {"free()/forall(3)/forall(5)/output(-3)", net(prefix(all(3, 5)), -3)},
		"existential neighbours":       {"exists(5)/exists(3, 4)/exists(1)/output(1)", net(prefix(some(5, 3, 4, 1)), 1)},
		"universal neighbours":         {"forall(5)/forall(3, 4)/exists(2)/forall(6)/forall(1)/output(1)", net(prefix(all(5, 3, 4), some(2), all(6, 1)), 1)},
		"neighbours of nothing":        {"exists(5)/forall()/exists(3)/exists()/forall(2)/exists()/forall()/exists()/forall(1)/exists()/output(1)", net(prefix(some(5, 3), all(2, 1)), 1)},
		"nothing first":                {"forall()/exists()/forall(1)/output(1)", net(prefix(all(1)), 1)},
		"all four quantifiers":         {"exists(1)/forall(2)/exists(3)/forall(4)/output(1)", net(prefix(some(1), all(2), some(3), all(4)), 1)},
		"gates in another order":       {"exists(1)/output(5)/5 = or(4)/4 = and(1)/6 = and(1)", net(prefix(some(1)), 5, and(4, 1), or(5, 4), and(6, 1))},
		"gates from behind":            {"exists(1)/output(2)/2 = xor(3, 4)/3 = and(4, 5)/4 = or(-5)/5 = or(1)", net(prefix(some(1)), 2, or(5, 1), or(4, -5), and(3, 4, 5), xor(2, 3, 4))},
		"the first one that can":       {"exists(1)/output(9)/9 = and(8)/7 = and()/8 = or(7)/6 = and()", net(prefix(some(1)), 9, and(7), or(8, 7), and(9, 8), and(6))},
		"the greatest variable":        {"exists(65536)/forall(1)/output(-65535)/65535 = ite(-65536, 1, 1)", net(prefix(some(65536), all(1)), -65535, ite(65535, -65536, 1, 1))},
		"a literal and its negative":   {"exists(1)/output(2)/2 = and(1, -1, 1, -1)", net(prefix(some(1)), 2, and(2, 1, -1, 1, -1))},
		"numbers with 0":               {"exists(10, 100, 1010)/output(10)", net(prefix(some(10, 100, 1010)), 10)},
		"comments and blanks between":  {"#/free(1)/ /#x/exists(2)//forall(3)/#/#/output(4)/ /4 = and(5)/#/5 = or(1)/# 6 = and()", net(prefix(some(1, 2), all(3)), 4, or(5, 1), and(4, 5))},
	}
}

func TestRead(t *testing.T) {
	for name, c := range readings() {
		s := divided(c.text)
		if n, line, e := qcir.Read(s); !same(n, c.want) || line != 0 || e != api.OK {
			t.Errorf("Read of %s: %v, %d, %v", name, n, line, e)
		}
		if n, line, e := naiveRead(s); !same(n, c.want) || line != 0 || e != api.OK {
			t.Errorf("the naive reading of %s: %v, %d, %v", name, n, line, e)
		}
	}
}

// sameAsNaive holds Read against the naive one; it returns the error.
func sameAsNaive(t *testing.T, s string) api.Errno {
	t.Helper()
	n, line, e := qcir.Read(s)
	m, at, f := naiveRead(s)
	if !same(n, m) || line != at || e != f || e != api.OK && !isNothing(n) {
		t.Errorf("Read(%.200q) = %v, %d, %v, and not %v, %d, %v", s, n, line, e, m, at, f)
	}
	return e
}

// TestReadOfAllSorts: texts with at most three changes, among them errors of each kind.
func TestReadOfAllSorts(t *testing.T) {
	dice := dice(81)
	count := map[api.Errno]int{}
	for range 60000 {
		lines := dice.lines()
		for range dice.below(4) {
			lines = dice.spoil(lines)
		}
		count[sameAsNaive(t, dice.written(lines))]++
	}
	for _, e := range []api.Errno{api.OK, api.ErrForm, api.ErrArg, api.ErrThere, api.ErrNone, api.ErrCycle} {
		if count[e] < 300 {
			t.Errorf("%d texts with %v", count[e], e)
		}
	}
}

// TestReadOfAllLines goes through all texts of at most some lines.
func TestReadOfAllLines(t *testing.T) {
	lines := []string{"free()\n", "free(1)\n", "exists(1)\n", "exists(2)\n", "exists()\n", "forall(2)\n", "forall(2, 1)\n", "output(1)\n", "output(-3)\n", "3 = and(1, 2)\n", "3 = or(4)\n", "4 = and(3)\n", "4 = xor(2)\n", "\n", "#\n", "?\n"}
	for _, s := range sequences("", 4, lines...) {
		sameAsNaive(t, s)
	}
	for _, s := range sequences("free(1)\nforall(2)\noutput(3)\n", 4, "3 = and()\n", "3 = ite(1, 4, 2)\n", "3 = xor(4, 5)\n", "4 = or(5)\n", "4 = or(1)\n", "5 = xor(-4, 4)\n", "5 = and(6)\n", "6 = ite(1, 2)\n", "6 = or(-6)\n", "2 = or()\n", " \n") {
		sameAsNaive(t, s)
	}
}

// TestReadOfShortStrings goes through all strings of some bytes, at several places of a text.
func TestReadOfShortStrings(t *testing.T) {
	for _, s := range sequences("", 4, strings.Split(" \t\n\r012(),=-#ax", "")...) {
		sameAsNaive(t, "output(2)\n2 = or("+s+")\n1 = and()")
		sameAsNaive(t, "exists("+s+")\n\noutput(1)")
		sameAsNaive(t, "exists(1, 2)"+s+"\noutput(1)")
		sameAsNaive(t, "exists(1, 2)\noutput("+s+")")
	}
	for _, s := range sequences("", 3, strings.Split(" \t\n\r012(),=-#anorx", "")...) {
		sameAsNaive(t, "exists(1)\noutput(1)\n2 ="+s+"(1)")
		sameAsNaive(t, s+"exists(1)\noutput(1)")
		sameAsNaive(t, "exists(1"+s+"1, 2)\noutput(2)")
		sameAsNaive(t, s)
	}
}

// TestReadOfAllTokens goes through all lines of at most four tokens, in front of an output line and behind it.
func TestReadOfAllTokens(t *testing.T) {
	for _, s := range sequences("", 4, strings.Split("free ;exists ;forall ;output ;and ;xor ;2 ;( ;) ;= ;- ;, ;7x", ";")...) {
		sameAsNaive(t, s+"\noutput(2)\n")
		sameAsNaive(t, "free(1)\noutput(1)\n"+s)
	}
	for _, s := range sequences("3 = ite ( ", 5, strings.Split("1;2;-;,;(;);=;and", ";")...) {
		sameAsNaive(t, "exists(1, 2)\noutput(1)\n"+s+")")
	}
}
