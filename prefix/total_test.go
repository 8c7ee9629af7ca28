package prefix_test

import (
	"slices"
	"testing"

	"skolem/api"
	"skolem/prefix"
)

// P0.1, and the rules R3 and R6, for all functions of the layer.

// weirdLists returns lists of all sorts.
func weirdLists() [][]int {
	l := [][]int{nil, {}, variables(1, 1024), variables(1, 65537), make([]int, 200001), slices.Repeat([]int{-7, 7}, 100001)}
	return slices.Concat(l, loose, listsOf(2, oddInts...))
}

// weirdPrefixes returns lists of blocks of all sorts.
func weirdPrefixes() [][]api.Block {
	ps := [][]api.Block{nil, {}, {{}}, example(), make([]api.Block, 100000)}
	var one []api.Block
	for i, l := range weirdLists() {
		b := api.Block{Exists: i%2 == 0, Vars: l}
		ps = append(ps, []api.Block{b}, []api.Block{some(1), b, some(2)})
		one = append(one, b)
	}
	return append(ps, one)
}

// weirdCnfs returns lists of clauses of all sorts.
func weirdCnfs() [][][]int {
	return [][][]int{nil, {}, {nil}, {{}}, {{1}}, {{-2, 3}, {}}, weirdLists(), weirdLists()[:3], make([][]int, 20000), make([][]int, 20001), {variables(1, 65536)}, slices.Repeat([][]int{variables(1, 1000)}, 201)}
}

// TestTotalOfPrefixes calls each function of a prefix with all sorts of arguments: none panics, and with an error there is no other result.
func TestTotalOfPrefixes(t *testing.T) {
	ps, lists := weirdPrefixes(), weirdLists()
	for i, p := range ps {
		prefix.May(p)
		prefix.Vars(p)
		prefix.Same(p, ps[(i+1)%len(ps)])
		if got, e := prefix.Join(p); e != api.OK && got != nil {
			t.Errorf("Join of prefix %d: %v with %v", i, got, e)
		}
		for _, v := range oddInts {
			prefix.Find(p, v)
			if got, e := prefix.On(p, v); e != api.OK && got != nil {
				t.Errorf("On of prefix %d: %v with %v", i, got, e)
			}
		}
		for j := i % 7; j < len(lists); j += 7 {
			prefix.Last(p, lists[j], j%2 == 0)
			prefix.Reduce(p, lists[j], j%2 == 0)
			if got, e := prefix.Less(p, lists[j]); e != api.OK && got != nil {
				t.Errorf("Less of prefix %d: %v with %v", i, got, e)
			}
		}
		if i%5 > 0 && i > 20 {
			continue
		}
		for _, f := range weirdCnfs() {
			q := api.Qbf{Prefix: p, Clauses: f}
			prefix.MayQbf(q)
			if got, e := prefix.Close(q); e != api.OK && (got.Prefix != nil || got.Clauses != nil) {
				t.Errorf("Close of prefix %d: %v with %v", i, got, e)
			}
			if got, e := prefix.Dqbf(q); e != api.OK && (got.Univ != nil || got.Exist != nil || got.Clauses != nil) {
				t.Errorf("Dqbf of prefix %d: %v with %v", i, got, e)
			}
		}
	}
}

// TestTotalOfDqbfs does so for the functions of a Dqbf.
func TestTotalOfDqbfs(t *testing.T) {
	lists, cnfs := weirdLists(), weirdCnfs()
	for i, l := range lists {
		for _, f := range cnfs {
			for _, d := range []api.Dqbf{
				{Univ: l, Clauses: f},
				{Univ: l, Exist: []api.Dep{{Var: 3, On: l}, {Var: 9}}, Clauses: f},
				{Univ: []int{1, 2}, Exist: []api.Dep{{Var: 3, On: l}, {Var: 70000, On: l}}, Clauses: f},
				{Exist: []api.Dep{{Var: len(l)}, {Var: i}, {}}, Clauses: f},
			} {
				prefix.MayDqbf(d)
				prefix.SameDqbf(d, d)
				if got, ok := prefix.Deps(d, i); !ok && got != nil {
					t.Errorf("Deps with list %d: %v", i, got)
				}
				if got, e := prefix.Linear(d); e != api.OK && got != nil {
					t.Errorf("Linear with list %d: %v with %v", i, got, e)
				}
			}
		}
	}
}

// roomy returns the list as the beginning of a longer memory, whose other elements are marks.
func roomy(l ...int) (list, memory []int) {
	memory = append(slices.Clone(l), 77, 78, 79, 80)
	return memory[:len(l)], memory
}

// overwrite destroys a list together with the capacity behind it.
func overwrite(l []int) {
	l = l[:cap(l)]
	for i := range l {
		l[i] = -999
	}
}

// overwriteBlocks destroys a prefix and the lists in it.
func overwriteBlocks(p []api.Block) {
	for _, b := range p {
		overwrite(b.Vars)
	}
	p = p[:cap(p)]
	for i := range p {
		p[i] = all(-999)
	}
}

// arguments are arguments with marks behind all lists.
type arguments struct {
	p, behindP       []api.Block
	rows, behindRows []api.Dep
	lits, vars, univ []int
	f                [][]int
	wholes, before   [][]int
}

func (a *arguments) list(l ...int) []int {
	part, memory := roomy(l...)
	a.wholes = append(a.wholes, memory)
	a.before = append(a.before, slices.Clone(memory))
	return part
}

func newArguments() *arguments {
	a := &arguments{}
	a.behindP = []api.Block{some(a.list(9, 5)...), all(a.list(2, 1)...), some(a.list(3)...), all(a.list(4)...), some(88), all(89)}
	a.p = a.behindP[:4]
	a.univ = a.list(1, 2, 4)
	a.behindRows = []api.Dep{{Var: 3, On: a.list(1, 2)}, {Var: 5, On: a.list()}, {Var: 9, On: a.list(1, 2)}, {Var: 90}, {Var: 91}}
	a.rows = a.behindRows[:3]
	a.lits, a.vars = a.list(4, -3, 1, 5), a.list(3, 9)
	a.f = [][]int{a.list(1, -3), a.list(-4, 5)}
	return a
}

// changed reports whether a list, or the memory behind it, is not as it was made.
func (a *arguments) changed() bool {
	rest := samePrefix(a.behindP[4:], []api.Block{some(88), all(89)}) && sameRows(a.behindRows[3:], []api.Dep{{Var: 90}, {Var: 91}})
	rows := sameRows(a.rows, []api.Dep{{Var: 3, On: []int{1, 2}}, {Var: 5}, {Var: 9, On: []int{1, 2}}})
	return !rest || !rows || !samePrefix(a.p, []api.Block{some(9, 5), all(2, 1), some(3), all(4)}) || !sameLists(a.wholes, a.before)
}

// TestMemory: no function changes its arguments or what stands behind them, and what it returns, clauses of formulas aside, is new memory.
func TestMemory(t *testing.T) {
	a := newArguments()
	open := [][]int{{1, -3}, {-4, 7}}
	d := api.Dqbf{Univ: a.univ, Exist: a.rows, Clauses: a.f}
	for name, call := range map[string]func(){
		"the answers": func() {
			prefix.May(a.p)
			prefix.MayQbf(api.Qbf{Prefix: a.p, Clauses: a.f})
			prefix.MayDqbf(d)
			prefix.Same(a.p, a.p[:3])
			prefix.SameDqbf(d, d)
			prefix.Find(a.p, 4)
			prefix.Last(a.p, a.lits, true)
		},
		"Vars":          func() { overwrite(prefix.Vars(a.p)) },
		"On":            func() { l, _ := prefix.On(a.p, 3); overwrite(l) },
		"On, one block": func() { l, _ := prefix.On(a.p, 1); overwrite(l) },
		"Reduce":        func() { overwrite(prefix.Reduce(a.p, a.lits, false)) },
		"Reduce, all":   func() { overwrite(prefix.Reduce(a.p, a.lits, true)) },
		"Join":          func() { p, _ := prefix.Join(a.p); overwriteBlocks(p) },
		"Join, some":    func() { p, _ := prefix.Join([]api.Block{a.p[0], a.p[2], a.p[1], a.p[3]}); overwriteBlocks(p) },
		"Less":          func() { p, _ := prefix.Less(a.p, a.vars); overwriteBlocks(p) },
		"Less, nothing": func() { p, _ := prefix.Less(a.p, nil); overwriteBlocks(p) },
		"Close":         func() { q, _ := prefix.Close(api.Qbf{Prefix: a.p, Clauses: open}); overwriteBlocks(q.Prefix) },
		"Close, inside": func() { q, _ := prefix.Close(api.Qbf{Prefix: a.p[1:], Clauses: open}); overwriteBlocks(q.Prefix) },
		"Close, closed": func() { q, _ := prefix.Close(api.Qbf{Prefix: a.p, Clauses: a.f}); overwriteBlocks(q.Prefix) },
		"Dqbf": func() {
			x, _ := prefix.Dqbf(api.Qbf{Prefix: a.p, Clauses: a.f})
			overwrite(x.Univ)
			for _, row := range x.Exist {
				overwrite(row.On)
			}
		},
		"Deps":   func() { l, _ := prefix.Deps(d, 3); overwrite(l) },
		"Linear": func() { p, _ := prefix.Linear(d); overwriteBlocks(p) },
	} {
		call()
		if a.changed() {
			t.Fatalf("%s: the arguments are %v", name, *a)
		}
	}
}

// TestResultsShareNothing: when one list of a result is overwritten, the others stay.
func TestResultsShareNothing(t *testing.T) {
	a := newArguments()
	d := api.Dqbf{Univ: a.univ, Exist: a.rows}
	for name, call := range map[string]func() []api.Block{
		"Join": func() []api.Block { p, _ := prefix.Join([]api.Block{a.p[0], a.p[2], a.p[1]}); return p },
		"Less": func() []api.Block { p, _ := prefix.Less(a.p, []int{9, 1}); return p },
		"Close": func() []api.Block {
			q, _ := prefix.Close(api.Qbf{Prefix: a.p, Clauses: [][]int{{6, 7}}})
			return q.Prefix
		},
		"Linear": func() []api.Block { p, _ := prefix.Linear(d); return p },
	} {
		want := call()
		for i := range want {
			p := call()
			overwrite(p[i].Vars)
			for j := range p {
				if j != i && !slices.Equal(p[j].Vars, want[j].Vars) {
					t.Errorf("%s: block %d changes with block %d", name, j, i)
				}
			}
		}
	}
	want, _ := prefix.Dqbf(api.Qbf{Prefix: a.p})
	for i := range want.Exist {
		x, _ := prefix.Dqbf(api.Qbf{Prefix: a.p})
		overwrite(x.Exist[i].On)
		for j, row := range x.Exist {
			if j != i && !slices.Equal(row.On, want.Exist[j].On) {
				t.Errorf("Dqbf: row %d changes with row %d", j, i)
			}
		}
		if !slices.Equal(x.Univ, want.Univ) {
			t.Errorf("Dqbf: Univ changes with row %d", i)
		}
	}
}
