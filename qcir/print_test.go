package qcir_test

import (
	"slices"
	"testing"

	"skolem/api"
	"skolem/qcir"
)

// P8.1

// example returns the net of the chapter's first example.
func example() api.Net {
	return net(prefix(some(1, 2), all(3)), -5, and(4, 1, -3), xor(5, 4, 2))
}

func TestPrint(t *testing.T) {
	for name, c := range map[string]struct {
		n    api.Net
		want string
	}{
		"the chapter's example":    {example(), "#QCIR-14/exists(1, 2)/forall(3)/output(-5)/4 = and(1, -3)/5 = xor(4, 2)/"},
		"the text of stage 8":      {net(prefix(some(9, 2), all(1, 3, 4)), 7, and(8), or(7, -8, 4, -1), ite(6, 7, 8, -7)), "#QCIR-14/exists(9, 2)/forall(1, 3, 4)/output(7)/8 = and()/7 = or(-8, 4, -1)/6 = ite(7, 8, -7)/"},
		"no gates":                 {net(prefix(all(7)), 7), "#QCIR-14/forall(7)/output(7)/"},
		"no gates, a negative Out": {net(prefix(some(7)), -7), "#QCIR-14/exists(7)/output(-7)/"},
		"no prefix":                {net(nil, -3, or(3)), "#QCIR-14/output(-3)/3 = or()/"},
		"no prefix, empty lists":   {net(prefix(), 4, api.Gate{Var: 4, Kind: api.GateAnd, In: []int{}}, or(2, -4, 4, -4)), "#QCIR-14/output(4)/4 = and()/2 = or(-4, 4, -4)/"},
		"four blocks":              {net(prefix(all(4), some(3, 9), all(2, 1), some(5)), 9), "#QCIR-14/forall(4)/exists(3, 9)/forall(2, 1)/exists(5)/output(9)/"},
		"each kind":                {net(prefix(some(1)), 6, and(2, 1), or(3, 1, 2), xor(4, -1, 3), ite(5, -4, 3, -2), and(6, 5, 5, -1, 1, 5)), "#QCIR-14/exists(1)/output(6)/2 = and(1)/3 = or(1, 2)/4 = xor(-1, 3)/5 = ite(-4, 3, -2)/6 = and(5, 5, -1, 1, 5)/"},
		"gates that are not used":  {net(prefix(some(2)), 2, and(9, 2), xor(1, 9, 9)), "#QCIR-14/exists(2)/output(2)/9 = and(2)/1 = xor(9, 9)/"},
		"the greatest variables":   {net(prefix(all(65536), some(10)), -65534, or(65535, -65536, 100, 10)), ""},
		"great variables":          {net(prefix(all(65536), some(10)), -65535, or(100, 10), or(65535, -65536, 100, -100, 10)), "#QCIR-14/forall(65536)/exists(10)/output(-65535)/100 = or(10)/65535 = or(-65536, 100, -100, 10)/"},
	} {
		want, wanted := divided(c.want), api.OK
		if c.want == "" {
			wanted = api.ErrArg
		} else if s := naivePrint(c.n); s != want {
			t.Errorf("the naive text of %s: %q", name, s)
		}
		if s, e := qcir.Print(c.n); s != want || e != wanted {
			t.Errorf("Print of %s: %q, %v", name, s, e)
		}
	}
}

func TestPrintOfAllSorts(t *testing.T) {
	dice := dice(80)
	for range 10000 {
		n := dice.net(8, 8)
		if s, e := qcir.Print(n); s != naivePrint(n) || e != api.OK {
			t.Errorf("Print(%v) = %q, %v", n, s, e)
		}
	}
}

// notNets returns nets that are not valid.
func notNets() map[string]api.Net {
	p := prefix(some(1), all(2))
	nets := map[string]api.Net{
		"nothing":                   {},
		"Out without variables":     net(nil, 1),
		"Out that is nowhere":       net(p, 3, and(4, 1)),
		"an empty block":            net(prefix(some()), 3, and(3)),
		"an empty block at the end": net(prefix(some(1), all()), 1),
		"an empty block between":    net(prefix(some(1), all(), some(2)), 1),
		"neighbours that exist":     net(prefix(some(1), some(2)), 1),
		"universal neighbours":      net(prefix(some(3), all(1), all(2)), 1),
		"a variable twice":          net(prefix(some(1, 2, 1)), 1),
		"a variable in two blocks":  net(prefix(some(1, 2), all(2)), 1),
		"1025 variables":            net(prefix(some(variables(1, 1025)...)), 1),
		"1025 variables in blocks":  net(prefix(some(variables(1, 1024)...), all(2000)), 1),
		"a gate of no kind":         net(p, 1, api.Gate{Var: 3, In: []int{1, 2}}),
		"a gate of a fifth kind":    net(p, 1, api.Gate{Var: 3, Kind: 5, In: []int{1, 2}}),
		"a gate of the last kind":   net(p, 1, api.Gate{Var: 3, Kind: 255}),
		"xor of nothing":            net(p, 1, xor(3)),
		"xor of one":                net(p, 1, xor(3, 1)),
		"xor of three":              net(p, 1, xor(3, 1, 2, 1)),
		"ite of nothing":            net(p, 1, ite(3)),
		"ite of two":                net(p, 1, ite(3, 1, 2)),
		"ite of four":               net(p, 1, ite(3, 1, 2, 1, 2)),
		"a gate of itself":          net(p, 1, and(3, 1, 3)),
		"a gate of a later one":     net(p, 1, and(3, 4), and(4, 1)),
		"a circle":                  net(p, 3, and(3, 4), and(4, 3)),
		"a gate of nothing known":   net(p, 1, and(3, 5)),
		"Var in the prefix":         net(p, 1, and(2, 1)),
		"Var of two gates":          net(p, 1, and(3, 1), and(4), or(3, 2)),
		"200001 literals in one":    net(p, 1, and(3, slices.Repeat([]int{1}, 200001)...)),
		"200001 literals in two":    net(p, 1, and(3, slices.Repeat([]int{1}, 200000)...), or(4, 2)),
	}
	for _, x := range oddInts {
		if x < 1 || x > 65536 {
			nets["the variable "+listOf([]int{x})] = net(prefix(some(1), all(2, x)), 1)
			nets["the Var "+listOf([]int{x})] = net(p, 1, and(x, 1))
		}
		if max(x, -x) != 1 && max(x, -x) != 2 {
			nets["the literal "+listOf([]int{x})] = net(p, 1, and(3, 1, x))
			nets["the Out "+listOf([]int{x})] = net(p, x)
		}
	}
	return nets
}

func TestPrintOfWrong(t *testing.T) {
	for name, n := range notNets() {
		if s, e := qcir.Print(n); s != "" || e != api.ErrArg {
			t.Errorf("Print of %s: %.60q, %v", name, s, e)
		}
	}
}

// longest returns a valid net with as many variables, gates and literals as there may be, nearly each one as long as it can be: no valid net has a text of more than MaxText bytes.
func longest() api.Net {
	n := net(nil, -65535)
	for i := range 1024 {
		n.Prefix = append(n.Prefix, api.Block{Exists: i%2 == 0, Vars: []int{65536 - i}})
	}
	left := 200000
	for v := 65536 - 1024; v > 1; v-- {
		n.Gates = append(n.Gates, ite(v, -65536, -65535, -65534))
		left -= 3
	}
	n.Gates = append(n.Gates, and(1, slices.Repeat([]int{-65533}, left)...))
	return n
}

func TestPrintAtLimits(t *testing.T) {
	n := longest()
	s, e := qcir.Print(n)
	if e != api.OK || s != naivePrint(n) {
		t.Errorf("Print of the longest: %d bytes, %v", len(s), e)
	}
	if len(s) < 2000000 || len(s) > api.MaxText {
		t.Errorf("its text has %d bytes", len(s))
	}
	p := prefix(some(1))
	wide := net(p, -2, or(2, slices.Repeat([]int{1, -1}, 100000)...))
	if s, e := qcir.Print(wide); s != naivePrint(wide) || e != api.OK {
		t.Errorf("Print of 200000 literals: %d bytes, %v", len(s), e)
	}
	wide.Gates = append(wide.Gates, and(3, 1))
	if s, e := qcir.Print(wide); s != "" || e != api.ErrArg {
		t.Errorf("Print of 200001 literals: %d bytes, %v", len(s), e)
	}
	full := net(prefix(some(variables(1, 512)...), all(variables(513, 1024)...)), 1024)
	if s, e := qcir.Print(full); s != naivePrint(full) || e != api.OK {
		t.Errorf("Print of 1024 variables: %d bytes, %v", len(s), e)
	}
}
