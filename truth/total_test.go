package truth_test

import (
	"math"
	"slices"
	"testing"

	"skolem/api"
	"skolem/truth"
)

// P0.1, and the rules R3, R5 and R6, for all functions of the layer.

// weirdLists returns lists of all sorts.
func weirdLists() [][]int {
	l := [][]int{nil, {}, {2, 1}, {1, 2}, {1, 1}, {1, -1}, {-1, 2}, {-1, -2}, {math.MinInt, 1}, {1, math.MinInt}, variables(1, 16), variables(1, 17), variables(1, 1024), variables(1, 65537), make([]int, 200001), slices.Repeat([]int{-7, 7}, 100001)}
	for _, x := range oddInts {
		l = append(l, []int{x})
	}
	return l
}

// weirdCnfs returns lists of clauses of all sorts.
func weirdCnfs() [][][]int {
	return [][][]int{nil, {}, {nil}, {{}}, {{1}}, {{1}, {-1}}, {{-2, 3}, {}}, weirdLists(), make([][]int, 20000), make([][]int, 20001), slices.Repeat([][]int{{1}}, 20000)}
}

// weirdTables returns lists of tables of all sorts.
func weirdTables() [][]api.Table {
	out := [][]api.Table{nil, {}, {{}}, make([]api.Table, 100000), {table(1, "")}, {table(1, "0")}, {table(3, "01", 1), table(9, "1")}, {table(1, "1"), table(2, "1")}}
	for _, l := range weirdLists() {
		for _, n := range []int{0, 1, 2, 4, 65536} {
			out = append(out, []api.Table{{Var: len(l), On: l, Bits: make([]bool, n)}}, []api.Table{{Var: 3, On: l, Bits: make([]bool, n)}, table(9, "1")})
		}
	}
	return out
}

func weirdPrefixes() [][]api.Block {
	ps := [][]api.Block{nil, {}, {{}}, make([]api.Block, 100000), {all(1), some(2), all(3)}, {some(3), all(1)}}
	for i, l := range weirdLists() {
		b := api.Block{Exists: i%2 == 0, Vars: l}
		ps = append(ps, []api.Block{b}, []api.Block{some(3), b, some(9)})
	}
	return ps
}

// TestTotalOfQbfs calls each function of a Qbf with all sorts of arguments: none panics, and with an error there is no other result.
func TestTotalOfQbfs(t *testing.T) {
	cnfs, tables := weirdCnfs(), weirdTables()
	for i, p := range weirdPrefixes() {
		for j, f := range cnfs {
			q := api.Qbf{Prefix: p, Clauses: f}
			if got, e := truth.Qbf(q); (e == api.OK) != (got != api.Unknown) {
				t.Errorf("Qbf of prefix %d and clauses %d: %v, %v", i, j, got, e)
			}
			if got, e := truth.Herbrand(q); e != api.OK && got != nil {
				t.Errorf("Herbrand of prefix %d and clauses %d: %v, %v", i, j, got, e)
			}
			for k := (i + j) % 3; k < len(tables); k += 3 {
				if got, e := truth.Loses(q, tables[k]); e != api.OK && got {
					t.Errorf("Loses of prefix %d, clauses %d and tables %d: %v, %v", i, j, k, got, e)
				}
			}
		}
	}
}

// TestTotalOfDqbfs does so for the functions of a Dqbf.
func TestTotalOfDqbfs(t *testing.T) {
	cnfs, tables := weirdCnfs(), weirdTables()
	for i, l := range weirdLists() {
		for j, f := range cnfs {
			for n, d := range []api.Dqbf{
				{Univ: l, Clauses: f},
				{Univ: l, Exist: []api.Dep{row(3, l...), row(9)}, Clauses: f},
				{Univ: []int{1, 2}, Exist: []api.Dep{row(3, l...), row(70000, l...)}, Clauses: f},
				{Exist: []api.Dep{row(len(l)), row(i), row(0)}, Clauses: f},
				{Exist: rowsOf(1, len(l)), Clauses: f},
			} {
				if got, e := truth.Dqbf(d); (e == api.OK) != (got != api.Unknown) {
					t.Errorf("Dqbf of list %d and clauses %d, %d: %v, %v", i, j, n, got, e)
				}
				if got, e := truth.Skolem(d); e != api.OK && got != nil {
					t.Errorf("Skolem of list %d and clauses %d, %d: %v, %v", i, j, n, got, e)
				}
				for k := (i + j + n) % 9; k < len(tables); k += 9 {
					if got, e := truth.Wins(d, tables[k]); e != api.OK && got {
						t.Errorf("Wins of list %d, clauses %d, %d, and tables %d: %v, %v", i, j, n, k, got, e)
					}
				}
			}
		}
	}
}

// roomy returns the list as the beginning of a longer memory, whose other elements are marks.
func roomy[E any](mark E, l ...E) []E {
	return append(slices.Clone(l), mark, mark, mark)[:len(l)]
}

// overwrite destroys a list together with the capacity behind it.
func overwrite[E any](l []E, mark E) {
	l = l[:cap(l)]
	for i := range l {
		l[i] = mark
	}
}

// overwriteTables destroys tables and the lists in them.
func overwriteTables(l []api.Table) {
	for _, t := range l {
		overwrite(t.On, -999)
		overwrite(t.Bits, true)
	}
	overwrite(l, api.Table{Var: -999})
}

// arguments are arguments with marks behind all lists.
type arguments struct {
	q    api.Qbf
	d    api.Dqbf
	win  []api.Table
	lose []api.Table
}

func newArguments() arguments {
	f := roomy([]int{88}, roomy(88, 1, 3), roomy(88, -1, -3))
	wide := func(t api.Table) api.Table {
		return api.Table{Var: t.Var, On: roomy(88, t.On...), Bits: roomy(true, t.Bits...)}
	}
	return arguments{
		q:    api.Qbf{Prefix: roomy(all(88), some(roomy(88, 3, 2)...), all(roomy(88, 1)...)), Clauses: f},
		d:    api.Dqbf{Univ: roomy(88, 1, 2), Exist: roomy(row(88), row(3, roomy(88, 1)...), row(4, roomy(88, 1, 2)...)), Clauses: f},
		win:  roomy(table(88, "1"), wide(table(3, "10", 1)), wide(table(4, "0000", 1, 2))),
		lose: roomy(table(88, "1"), wide(table(1, "0011", 2, 3))),
	}
}

// whole returns a list with all that its memory has.
func whole[E any](l []E) []E { return l[:cap(l)] }

// sameMemory reports whether all arguments, and what stands behind them, are as in others.
func sameMemory(a, b arguments) bool {
	sameLists := func(x, y []int) bool { return slices.Equal(whole(x), whole(y)) }
	sameBlocks := func(x, y api.Block) bool { return x.Exists == y.Exists && sameLists(x.Vars, y.Vars) }
	sameRows := func(x, y api.Dep) bool { return x.Var == y.Var && sameLists(x.On, y.On) }
	sameTable := func(x, y api.Table) bool {
		return x.Var == y.Var && sameLists(x.On, y.On) && slices.Equal(whole(x.Bits), whole(y.Bits))
	}
	return slices.EqualFunc(whole(a.q.Prefix), whole(b.q.Prefix), sameBlocks) && slices.EqualFunc(whole(a.q.Clauses), whole(b.q.Clauses), sameLists) &&
		sameLists(a.d.Univ, b.d.Univ) && slices.EqualFunc(whole(a.d.Exist), whole(b.d.Exist), sameRows) && slices.EqualFunc(whole(a.d.Clauses), whole(b.d.Clauses), sameLists) &&
		slices.EqualFunc(whole(a.win), whole(b.win), sameTable) && slices.EqualFunc(whole(a.lose), whole(b.lose), sameTable)
}

// TestMemory: no function changes its arguments or what stands behind them, and what it returns is new memory.
func TestMemory(t *testing.T) {
	a := newArguments()
	if !sameMemory(a, newArguments()) {
		t.Fatal("arguments are not made alike")
	}
	for name, call := range map[string]func() bool{
		"Qbf":      func() bool { v, e := truth.Qbf(a.q); return v == api.False && e == api.OK },
		"Dqbf":     func() bool { v, e := truth.Dqbf(a.d); return v == api.True && e == api.OK },
		"Wins":     func() bool { ok, e := truth.Wins(a.d, a.win); return ok && e == api.OK },
		"Loses":    func() bool { ok, e := truth.Loses(a.q, a.lose); return ok && e == api.OK },
		"Skolem":   func() bool { l, e := truth.Skolem(a.d); overwriteTables(l); return e == api.OK },
		"Herbrand": func() bool { l, e := truth.Herbrand(a.q); overwriteTables(l); return e == api.OK },
	} {
		if !call() || !sameMemory(a, newArguments()) {
			t.Errorf("%s: the arguments are %v", name, a)
		}
	}
}

// TestResultsShareNothing: when a table of a result is overwritten, the others stay.
func TestResultsShareNothing(t *testing.T) {
	d := api.Dqbf{Univ: []int{1, 2}, Exist: []api.Dep{row(3, 1, 2), row(4, 1, 2), row(5, 1)}}
	q := api.Qbf{Prefix: []api.Block{some(1, 2), all(3, 4), some(5), all(6)}, Clauses: [][]int{{1, 3}, {-1, -3}}}
	for name, call := range map[string]func() []api.Table{
		"Skolem":   func() []api.Table { l, _ := truth.Skolem(d); return l },
		"Herbrand": func() []api.Table { l, _ := truth.Herbrand(q); return l },
	} {
		want := call()
		if len(want) != 3 || !sameTables(want, call()) {
			t.Fatalf("%s: %v", name, want)
		}
		for i := range want {
			l := call()
			overwrite(l[i].On, -999)
			overwrite(l[i].Bits, true)
			for j := range l {
				if j != i && !sameTables(l[j:j+1], want[j:j+1]) {
					t.Errorf("%s: table %d changes with table %d", name, j, i)
				}
			}
		}
	}
}
