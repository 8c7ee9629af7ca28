package circ_test

import (
	"math"
	"slices"
	"testing"

	"skolem/api"
	"skolem/circ"
)

// P0.1, and the rules R3, R5 and R6, for all functions of the layer.

// weirdLists returns lists of all sorts.
func weirdLists() [][]int {
	l := [][]int{nil, {}, {1, 2}, {1, -2}, {-1, 5}, variables(1, 1024), variables(1, 1025), variables(1, 65537), make([]int, 200001), slices.Repeat([]int{-7, 7}, 100001)}
	l = append(l, loose...)
	for _, x := range oddInts {
		l = append(l, []int{x}, []int{1, x, 1}, []int{x, x})
	}
	return l
}

// weirdPrefixes returns lists of blocks of all sorts.
func weirdPrefixes() [][]api.Block {
	ps := [][]api.Block{nil, {}, {{}}, make([]api.Block, 100000), prefix(some(1), all(2), some(3)), prefix(some(7))}
	for i, l := range weirdLists() {
		ps = append(ps, []api.Block{{Exists: i%2 == 0, Vars: l}}, prefix(some(7), api.Block{Vars: l}))
	}
	return ps
}

// weirdGates returns lists of gates of all sorts.
func weirdGates() [][]api.Gate {
	ls := [][]api.Gate{nil, {}, {{}}, make([]api.Gate, 100000), empties(1, 65536), empties(8, 70000), chain(65535).Gates, gates(and(3), or(4, 3)), gates(and(4, 4))}
	for i, l := range weirdLists() {
		v := oddInts[i%len(oddInts)]
		for kind := range api.GateKind(6) {
			ls = append(ls, []api.Gate{{Var: 8, Kind: kind, In: l}}, []api.Gate{{Var: v, Kind: kind, In: l}, {Var: 9, Kind: kind, In: []int{1, v, 8}}})
		}
	}
	return append(ls, []api.Gate{{Var: 8, Kind: 255}}, []api.Gate{{Var: math.MinInt, Kind: 1, In: []int{math.MinInt}}})
}

func isNothing(n api.Net) bool { return n.Prefix == nil && n.Gates == nil && n.Out == 0 }

// TestTotal calls each function with all sorts of arguments: none panics, and with an error there is no other result.
func TestTotal(t *testing.T) {
	lists, ps, ls := weirdLists(), weirdPrefixes(), weirdGates()
	m := net(prefix(some(1)), -9, or(9, -1))
	check := func(name string, i, j int, e api.Errno, nothing bool) {
		if e != api.OK && !nothing {
			t.Errorf("%s of prefix %d and gates %d: %v with a result", name, i, j, e)
		}
	}
	for i, p := range ps {
		for j := i % 5; j < len(ls); j += 5 {
			k := i + j
			lit := oddInts[k%len(oddInts)]
			n := net(p, oddInts[k/7%len(oddInts)], ls[j]...)
			circ.Same(n, n)
			if !circ.May(n) && k%3 > 0 {
				n = net(p, 7, ls[j]...)
			}
			a := lists[k%len(lists)]
			got, e := circ.Eval(n, a)
			check("Eval", i, j, e, !got)
			bits, e := circ.Values(n, a)
			check("Values", i, j, e, bits == nil)
			on, e := circ.Support(n, lit)
			check("Support", i, j, e, on == nil)
			out, e := circ.Simple(n)
			check("Simple", i, j, e, isNothing(out))
			out, e = circ.Cofactor(n, a)
			check("Cofactor", i, j, e, isNothing(out))
			out, e = circ.Compose(n, 7, m)
			check("Compose", i, j, e, isNothing(out))
			out, e = circ.Compose(net(prefix(some(1, 7)), 7), lit, n)
			check("Compose by", i, j, e, isNothing(out))
			order, e := circ.Order(numbersOf(p), ls[j])
			check("Order", i, j, e, order == nil)
		}
	}
}

// TestTotalOfSame: nets of all sorts are compared.
func TestTotalOfSame(t *testing.T) {
	ps, ls := weirdPrefixes(), weirdGates()
	for i, p := range ps {
		for j, l := range ls {
			a, b := net(p, 1, l...), net(ps[(i+1)%len(ps)], 1, ls[(j+1)%len(ls)]...)
			if circ.Same(a, b) != sameNets(a, b) {
				t.Errorf("Same of prefix %d and gates %d, and the next ones", i, j)
			}
		}
	}
}

// roomy returns the list as the beginning of a longer memory, whose other elements are marks.
func roomy[E any](mark E, l ...E) []E {
	return append(slices.Clone(l), mark, mark, mark)[:len(l)]
}

// whole returns a list with all that its memory has.
func whole[E any](l []E) []E { return l[:cap(l)] }

// overwrite destroys a list together with the capacity behind it.
func overwrite[E any](l []E, mark E) {
	for i := range whole(l) {
		whole(l)[i] = mark
	}
}

func overwriteGates(l []api.Gate) {
	for _, g := range l {
		overwrite(g.In, -999)
	}
	overwrite(l, and(-999))
}

func overwriteNet(n api.Net) {
	for _, b := range n.Prefix {
		overwrite(b.Vars, -999)
	}
	overwrite(n.Prefix, all(-999))
	overwriteGates(n.Gates)
}

// roomyNet returns the net with marks behind all lists.
func roomyNet(n api.Net) api.Net {
	var p []api.Block
	for _, b := range n.Prefix {
		p = append(p, api.Block{Exists: b.Exists, Vars: roomy(88, b.Vars...)})
	}
	var l []api.Gate
	for _, g := range n.Gates {
		l = append(l, api.Gate{Var: g.Var, Kind: g.Kind, In: roomy(88, g.In...)})
	}
	return net(roomy(all(88), p...), n.Out, roomy(and(88), l...)...)
}

// memoryOf returns a net whose lists are all that their memory has.
func memoryOf(n api.Net) api.Net {
	out := net(slices.Clone(whole(n.Prefix)), n.Out, slices.Clone(whole(n.Gates))...)
	for i := range out.Prefix {
		out.Prefix[i].Vars = slices.Clone(whole(out.Prefix[i].Vars))
	}
	for i := range out.Gates {
		out.Gates[i].In = slices.Clone(whole(out.Gates[i].In))
	}
	return out
}

// memoryNet returns a net of which Simple leaves some gates as they are, and changes others.
func memoryNet() api.Net {
	return net(prefix(some(1, 2), all(3), some(4)), 10, and(5, 1, 2), or(6, 5, 3), xor(7, 6, -4), ite(8, 7, 1, 3), and(9, 8), or(11), or(10, 9, 4, 3, 8, 11))
}

// TestMemory: no function changes its arguments or what stands behind them, and what it returns is new memory.
func TestMemory(t *testing.T) {
	n, m := roomyNet(memoryNet()), roomyNet(net(prefix(all(2), some(1)), 6, xor(5, 1, 2), or(6, 5, 1)))
	a, ins := roomy(88, -2, 4), roomy(88, 1, 2, 3, 4)
	nBefore, mBefore, aBefore, insBefore := memoryOf(n), memoryOf(m), slices.Clone(whole(a)), slices.Clone(whole(ins))
	if len(nBefore.Prefix) < 6 || len(nBefore.Gates[0].In) < 5 {
		t.Fatal("the net has no marks")
	}
	ofNet := func(n api.Net, e api.Errno) bool { overwriteNet(n); return e == api.OK }
	for name, call := range map[string]func() bool{
		"May":          func() bool { return circ.May(n) },
		"Same":         func() bool { return circ.Same(n, memoryNet()) },
		"Eval":         func() bool { v, e := circ.Eval(n, a); return v && e == api.OK },
		"Values":       func() bool { l, e := circ.Values(n, a); overwrite(l, true); return e == api.OK && len(l) == 7 },
		"Support":      func() bool { l, e := circ.Support(n, 7); overwrite(l, -999); return e == api.OK && len(l) == 4 },
		"Support of 1": func() bool { l, e := circ.Support(n, 1); overwrite(l, -999); return e == api.OK && len(l) == 1 },
		"Order":        func() bool { l, e := circ.Order(ins, n.Gates); overwriteGates(l); return e == api.OK && len(l) == 7 },
		"Simple":       func() bool { return ofNet(circ.Simple(n)) },
		"Cofactor":     func() bool { return ofNet(circ.Cofactor(n, a)) },
		"by nothing":   func() bool { return ofNet(circ.Cofactor(n, a[:0])) },
		"by all":       func() bool { return ofNet(circ.Cofactor(n, []int{1, 2, 3, 4})) },
		"Compose":      func() bool { return ofNet(circ.Compose(n, 4, m)) },
		"Compose of 3": func() bool { return ofNet(circ.Compose(n, 3, m)) },
	} {
		if !call() || !sameNets(memoryOf(n), nBefore) || !sameNets(memoryOf(m), mBefore) || !slices.Equal(whole(a), aBefore) || !slices.Equal(whole(ins), insBefore) {
			t.Errorf("%s: the arguments are %v, %v, %v, %v", name, n, m, a, ins)
		}
	}
}

// TestResultsShareNothing: when a list of a result is overwritten, the others stay.
func TestResultsShareNothing(t *testing.T) {
	n := memoryNet()
	for name, call := range map[string]func() (api.Net, api.Errno){
		"Order": func() (api.Net, api.Errno) {
			l, e := circ.Order([]int{1, 2, 3, 4}, n.Gates)
			return net(nil, 1, l...), e
		},
		"Simple":   func() (api.Net, api.Errno) { return circ.Simple(n) },
		"Cofactor": func() (api.Net, api.Errno) { return circ.Cofactor(n, []int{-3}) },
		"Compose": func() (api.Net, api.Errno) {
			return circ.Compose(n, 3, net(prefix(some(1, 2)), 6, xor(6, 1, 2), and(5, 6, 1)))
		},
		"Gates that share": func() (api.Net, api.Errno) {
			in := []int{1, 2, 3}
			return circ.Simple(net(prefix(some(in...)), 6, ite(4, in...), or(5, in...), and(6, 4, 5, 1)))
		},
		"Gates in order that share": func() (api.Net, api.Errno) {
			in := []int{1, 2, 3}
			l, e := circ.Order(in, gates(ite(4, in...), or(5, in...), and(6, in...)))
			return net(nil, 1, l...), e
		},
	} {
		want, e := call()
		if e != api.OK || len(want.Gates) < 3 {
			t.Fatalf("%s: %v, %v", name, want, e)
		}
		for i := range want.Prefix {
			got, _ := call()
			overwrite(got.Prefix[i].Vars, -999)
			got.Prefix[i].Vars = want.Prefix[i].Vars
			if !sameNets(got, want) {
				t.Errorf("%s: the net changes with block %d", name, i)
			}
		}
		for i := range want.Gates {
			got, _ := call()
			overwrite(got.Gates[i].In, -999)
			got.Gates[i].In = want.Gates[i].In
			if !sameNets(got, want) {
				t.Errorf("%s: the net changes with gate %d", name, i)
			}
		}
	}
}

// TestAgain: equal calls return equal results.
func TestAgain(t *testing.T) {
	dice := dice(85)
	for range 300 {
		n := dice.net(6, 12)
		first, _ := circ.Simple(n)
		order, _ := circ.Order(numbersOf(n.Prefix), n.Gates)
		for range 10 {
			if again, _ := circ.Simple(n); !sameNets(first, again) {
				t.Errorf("Simple(%v) = %v and %v", n, first, again)
			}
			if again, _ := circ.Order(numbersOf(n.Prefix), n.Gates); !sameGates(order, again) {
				t.Errorf("Order of %v: %v and %v", n, order, again)
			}
		}
	}
}
