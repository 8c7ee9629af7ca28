package enc_test

import (
	"math"
	"slices"
	"sync"
	"testing"

	"skolem/aig"
	"skolem/api"
	"skolem/circ"
	"skolem/enc"
)

// P0.1, and the rules R1, R3, R5 and R6, for all functions of the layer.

// weirdLists returns lists of all sorts: normal, not normal, with integers that are no literals and no edges, empty, long.
func weirdLists() [][]int {
	l := [][]int{nil, {}, {1}, {1, 2}, {1, -2}, {-1, 2, 7}, {7, 8}, variables(1, 1024), variables(1, 1025), variables(1, 65536), variables(1, 65537), make([]int, 200001), slices.Repeat([]int{-7, 7}, 100001), slices.Repeat([]int{2}, 200000)}
	l = append(l, loose...)
	for _, x := range oddInts {
		l = append(l, []int{x}, []int{1, x, 1}, []int{x, x}, []int{1, 2, x}, []int{x, 1, 2})
	}
	return l
}

// weirdPrefixes returns lists of blocks of all sorts, with a list.
func weirdPrefixes(l []int) [][]api.Block {
	return [][]api.Block{nil, {}, {{}}, make([]api.Block, 5000), blocks(some(1), all(2), some(7)), blocks(all(l...)), blocks(some(9), all(l...)), blocks(some(l...), some(l...))}
}

// TestTotal calls each function with all sorts of arguments: none panics, and with an error there is no other result.
func TestTotal(t *testing.T) {
	lists := weirdLists()
	count := map[api.Errno]int{}
	check := func(name string, i int, e api.Errno, nothing bool) {
		if e != api.OK && !nothing || e != api.OK && e != api.ErrArg && e != api.ErrNone && e != api.ErrLong {
			t.Errorf("%s of list %d: %v with a result", name, i, e)
		}
		count[e]++
	}
	for i, l := range lists {
		x, y := oddInts[i%len(oddInts)], oddInts[(i*5+3)%len(oddInts)]
		for kind := range api.GateKind(6) {
			for _, v := range []int{x, y, 8} {
				f, e := enc.Gate(api.Gate{Var: v, Kind: kind, In: l}, i%5-2)
				check("Gate", i, e, f == nil)
				f, e = enc.Gate(api.Gate{Var: v, Kind: kind, In: l}, y)
				check("Gate", i, e, f == nil)
			}
		}
		for j, p := range weirdPrefixes(l) {
			for k, out := range []int{x, y, 1, 8} {
				in := lists[(i+j+k)%len(lists)]
				for _, gates := range [][]api.Gate{nil, {{}}, {{Var: 8, Kind: api.GateKind(1 + j%5), In: in}}, {and(8, l...), or(10, 8, -8, x)}, {and(8, 1), or(y, 8)}} {
					q, e := enc.Net(net(p, out, gates...))
					check("Net", i, e, q.Prefix == nil && q.Clauses == nil)
					q, e = enc.Half(net(p, out, gates...))
					check("Half", i, e, q.Prefix == nil && q.Clauses == nil)
				}
			}
			for _, f := range [][][]int{nil, {nil}, {l}, {{1}, l}, lists[:1+i%9]} {
				n, e := enc.Back(api.Qbf{Prefix: p, Clauses: f})
				check("Back", i, e, n.Prefix == nil && n.Gates == nil && n.Out == 0)
				ins := lists[(i+j)%len(lists)]
				g, edge, e := enc.Matrix(f, ins)
				check("Matrix", i, e, g.Ins == nil && g.Ands == nil && edge == 0)
			}
		}
		for _, g := range []api.Aig{{}, graph(l), graph(l, pair(0, 1), pair(x, y)), xorGraph(), graph(list(1, 2), pair(2, x)), graph(list(65536), pair(2, 3)), graph(nil, make([][2]int, 300)...)} {
			for _, first := range []int{x, y, 5, 3, 65537} {
				for _, edges := range [][]int{l, lists[(i+7)%len(lists)], nil, {x}, {0, 2}} {
					f, lits, next, e := enc.Graph(g, edges, first)
					check("Graph", i, e, f == nil && lits == nil && next == 0)
				}
			}
		}
	}
	if count[api.OK] < 1000 || count[api.ErrArg] < 1000 || count[api.ErrNone] < 100 || count[api.ErrLong] < 100 {
		t.Errorf("%v", count)
	}
}

// TestHuge: arguments beyond all limits are refused.
func TestHuge(t *testing.T) {
	long := make([]int, 3000000)
	many := make([]api.Gate, 500000)
	for i := range many {
		many[i] = and(i + 1)
	}
	check := func(name string, e api.Errno) {
		t.Helper()
		if e != api.ErrArg {
			t.Errorf("%s: %v", name, e)
		}
	}
	_, e := enc.Gate(and(3, slices.Repeat(list(1), 3000000)...), 1)
	check("a gate of many literals", e)
	_, e = enc.Gate(or(math.MaxInt, long...), 0)
	check("a gate of zeros", e)
	for _, n := range []api.Net{net(nil, 1, many...), net(blocks(all(long...)), 1), net(make([]api.Block, 3000000), 1, and(1)), net(nil, 1, and(1, long...))} {
		for _, fn := range both() {
			_, e = fn.call(n)
			check(fn.name, e)
		}
	}
	_, _, _, e = enc.Graph(graph(long), nil, 1)
	check("a graph of many inputs", e)
	_, _, _, e = enc.Graph(graph(nil, make([][2]int, 3000000)...), list(0), 1)
	check("a graph of many Ands", e)
	if _, lits, next, e := enc.Graph(graph(nil), long, 1); len(lits) != len(long) || next != 2 || e != api.OK {
		t.Errorf("many edges: %d literals, %d, %v", len(lits), next, e)
	}
	_, e = enc.Back(api.Qbf{Clauses: make([][]int, 3000000)})
	check("many clauses", e)
	_, _, e = enc.Matrix(make([][]int, 3000000), nil)
	check("Matrix of many clauses", e)
	_, _, e = enc.Matrix(nil, long)
	check("Matrix of many ins", e)
}

// TestNilAndEmpty: nil and empty slices are equivalent.
func TestNilAndEmpty(t *testing.T) {
	for _, none := range [][]int{nil, {}} {
		for way := -1; way <= 1; way++ {
			f, _ := naiveGate(and(3), way)
			if got, e := enc.Gate(api.Gate{Var: 3, Kind: api.GateAnd, In: none}, way); !sameLists(got, f) || e != api.OK {
				t.Errorf("Gate: %v, %v", got, e)
			}
		}
		for _, p := range [][]api.Block{nil, {}} {
			for _, fn := range both() {
				fn.returns(t, "a gate without literals", net(p, 3, or(3, none...)), blocks(some(3)), clauses(list(-3), list(3)))
				n := api.Net{Prefix: blocks(all(1)), Gates: []api.Gate{}, Out: 1}
				fn.returns(t, "no gates", n, blocks(all(1)), clauses(list(1)))
			}
			for _, f := range [][][]int{{none}, {none, none}} {
				turnedBack(t, api.Qbf{Prefix: p, Clauses: f})
				matrixed(t, f, none)
			}
		}
		for _, ands := range [][][2]int{nil, {}} {
			f, lits, next, e := enc.Graph(api.Aig{Ins: none, Ands: ands}, none, 4)
			if len(f) > 0 || len(lits) > 0 || next != 4 || e != api.OK {
				t.Errorf("Graph: %v, %v, %d, %v", f, lits, next, e)
			}
		}
		for _, f := range [][][]int{nil, {}} {
			if g, edge, e := enc.Matrix(f, none); !aig.Same(g, api.Aig{}) || edge != 1 || e != api.OK {
				t.Errorf("Matrix: %v, %d, %v", g, edge, e)
			}
			if n, e := enc.Back(api.Qbf{Clauses: f}); !circ.Same(n, net(nil, 1, and(1))) || e != api.OK {
				t.Errorf("Back: %v, %v", n, e)
			}
		}
	}
}

// roomy returns the list as the beginning of a longer memory, whose other elements are marks.
func roomy[E any](mark E, l ...E) []E {
	return append(slices.Clone(l), mark, mark, mark)[:len(l)]
}

// whole returns a list with all that its memory has.
func whole[E any](l []E) []E { return l[:cap(l)] }

// overwrite destroys a list together with the capacity behind it.
func overwrite[E any](l []E, mark E) {
	for i := range whole(l) {
		whole(l)[i] = mark
	}
}

// arguments are some of all sorts, of which the functions' results differ.
type arguments struct {
	gate  api.Gate
	net   api.Net
	graph api.Aig
	edges []int
	qbf   api.Qbf
	ins   []int
}

// example returns arguments with marks behind all lists.
func example() arguments {
	p := roomy(all(88), some(roomy(88, 3, 1)...), all(roomy(88, 2)...))
	gates := roomy(and(88), and(4, roomy(88, 3, -2)...), or(5, roomy(88, 4, 1, 4)...), xor(6, roomy(88, 5, 2)...), ite(7, roomy(88, 6, -3, 4)...), and(8, roomy(88, 1)...))
	f := roomy(list(88), roomy(88, -1, 2), roomy(88), roomy(88, 2, 3))
	return arguments{
		gate:  and(9, roomy(88, 4, -1, 2)...),
		net:   net(p, 7, gates...),
		graph: api.Aig{Ins: roomy(88, 1, 4), Ands: roomy(pair(88, 88), pair(5, 2), pair(3, 4), pair(0, 6), pair(9, 7))},
		edges: roomy(88, 13, 10, 2),
		qbf:   api.Qbf{Prefix: p, Clauses: f},
		ins:   roomy(88, 1, 2, 3),
	}
}

// lists returns all lists of numbers of the arguments.
func (a arguments) lists() [][]int {
	l := [][]int{a.gate.In, a.graph.Ins, a.edges, a.ins}
	for _, b := range slices.Concat(whole(a.net.Prefix), whole(a.qbf.Prefix)) {
		l = append(l, b.Vars)
	}
	for _, g := range whole(a.net.Gates) {
		l = append(l, g.In)
	}
	for _, p := range whole(a.graph.Ands) {
		l = append(l, list(p[0], p[1]))
	}
	return append(l, whole(a.qbf.Clauses)...)
}

// memory returns all that the memory of the arguments has.
func (a arguments) memory() [][]int {
	var out [][]int
	for _, l := range a.lists() {
		out = append(out, slices.Clone(whole(l)))
	}
	return out
}

// calls calls all functions, and returns all lists of numbers of each one's result.
func (a arguments) calls() map[string]func() [][]int {
	qbf := func(q api.Qbf) [][]int {
		l := slices.Clone(q.Clauses)
		for _, b := range q.Prefix {
			l = append(l, b.Vars)
		}
		return l
	}
	return map[string]func() [][]int{
		"Gate":    func() [][]int { f, _ := enc.Gate(a.gate, 0); return f },
		"Gate 1":  func() [][]int { f, _ := enc.Gate(a.gate, 1); return f },
		"Gate -1": func() [][]int { f, _ := enc.Gate(a.gate, -1); return f },
		"or":      func() [][]int { f, _ := enc.Gate(or(9, a.gate.In...), 0); return f },
		"ite":     func() [][]int { f, _ := enc.Gate(ite(9, a.gate.In...), 0); return f },
		"xor":     func() [][]int { f, _ := enc.Gate(xor(9, a.gate.In[:2]...), 0); return f },
		"Net":     func() [][]int { q, _ := enc.Net(a.net); return qbf(q) },
		"Half":    func() [][]int { q, _ := enc.Half(a.net); return qbf(q) },
		"Graph":   func() [][]int { f, lits, _, _ := enc.Graph(a.graph, a.edges, 5); return append(slices.Clip(f), lits) },
		"Back": func() [][]int {
			n, _ := enc.Back(a.qbf)
			var l [][]int
			for _, g := range n.Gates {
				l = append(l, g.In)
			}
			for _, b := range n.Prefix {
				l = append(l, b.Vars)
			}
			return l
		},
		"Matrix": func() [][]int {
			g, _, _ := enc.Matrix(a.qbf.Clauses, a.ins)
			return [][]int{g.Ins}
		},
	}
}

// TestArguments: no function changes its arguments, or uses what stands behind them.
func TestArguments(t *testing.T) {
	a := example()
	before := a.memory()
	if len(before) != len(example().lists()) || len(before[0]) < 6 {
		t.Fatal("there are no marks")
	}
	for name, call := range a.calls() {
		for range 2 {
			if l := call(); len(l) == 0 || slices.ContainsFunc(l, func(x []int) bool { return slices.Contains(x, 88) || slices.Contains(x, -88) }) {
				t.Errorf("%s: %v", name, l)
			}
			if !sameLists(a.memory(), before) {
				t.Errorf("%s: the arguments are %v", name, a.memory())
			}
		}
	}
}

// TestResultsShareNothing: results are new memory; no list of one shares memory with another list, or with an argument.
func TestResultsShareNothing(t *testing.T) {
	for name := range example().calls() {
		want := example().calls()[name]()
		for i := range want {
			a := example()
			before := a.memory()
			got := a.calls()[name]()
			overwrite(got[i], -99)
			got[i] = want[i]
			if !sameLists(got, want) {
				t.Errorf("%s: the result changes with list %d: %v", name, i, got)
			}
			if !sameLists(a.memory(), before) {
				t.Errorf("%s: the arguments change with list %d: %v", name, i, a.memory())
			}
		}
		a := example()
		got := a.calls()[name]()
		for _, l := range a.lists() {
			overwrite(l, -99)
		}
		overwrite(a.net.Prefix, all(-99))
		overwrite(a.net.Gates, and(-99))
		overwrite(a.qbf.Clauses, list(-99))
		overwrite(a.graph.Ands, pair(-99, -99))
		if !sameLists(got, want) {
			t.Errorf("%s: the result changes with the arguments: %v", name, got)
		}
	}
	for range 2 { // lists that the arguments share are not shared by the results
		in := list(1, 2, 3)
		n, _ := enc.Back(api.Qbf{Prefix: blocks(some(1, 2, 3)), Clauses: clauses(in, in)})
		overwrite(n.Gates[0].In, -99)
		if !slices.Equal(n.Gates[1].In, in) || !slices.Equal(in, list(1, 2, 3)) {
			t.Errorf("%v, %v", n, in)
		}
		q, _ := enc.Net(net(blocks(some(1, 2, 3)), 5, or(4, in...), or(5, in...)))
		overwrite(q.Clauses[0], -99)
		if !slices.Equal(q.Clauses[4], list(1, 2, 3, -5)) {
			t.Errorf("%v", q)
		}
	}
}

// TestAgain: equal calls return equal results, whatever was called between them.
func TestAgain(t *testing.T) {
	a := example()
	first := map[string][][]int{}
	for range 10 {
		for name, call := range a.calls() {
			l := call()
			if was, ok := first[name]; ok && !sameLists(l, was) {
				t.Errorf("%s: %v, then %v", name, was, l)
			}
			first[name] = l
		}
	}
}

// TestAtOnce: calls at the same time do not disturb each other.
func TestAtOnce(t *testing.T) {
	a := example()
	want := map[string][][]int{}
	for name, call := range a.calls() {
		want[name] = call()
	}
	var group sync.WaitGroup
	for range 8 {
		group.Go(func() {
			for range 50 {
				for name, call := range a.calls() {
					if l := call(); !sameLists(l, want[name]) {
						t.Errorf("%s: %v, not %v", name, l, want[name])
					}
				}
			}
		})
	}
	group.Wait()
}
