package dimacs_test

import (
	"slices"
	"strings"
	"testing"

	"skolem/api"
	"skolem/dimacs"
)

// P7.1

func TestWrite(t *testing.T) {
	for name, c := range map[string]struct {
		q    api.Qbf
		want string
	}{
		"nothing":                {qbf(nil), "p cnf 0 0\n"},
		"empty lists":            {qbf(blocks(), [][]int{}...), "p cnf 0 0\n"},
		"an empty clause":        {qbf(nil, nil), "p cnf 0 1\n0\n"},
		"empty clauses":          {qbf(nil, ints(), nil), "p cnf 0 2\n0\n0\n"},
		"no clauses":             {qbf(blocks(some(2))), "p cnf 2 0\ne 2 0\n"},
		"the document's example": {qbf(blocks(all(1), some(2)), ints(1, 2), ints(-1, -2)), "p cnf 2 2\na 1 0\ne 2 0\n1 2 0\n-1 -2 0\n"},
		"Vars in any order":      {qbf(blocks(some(9, 5), all(2, 1), some(3), all(4)), ints(-1), ints(), ints(1, -3, 9)), "p cnf 9 3\ne 9 5 0\na 2 1 0\ne 3 0\na 4 0\n-1 0\n0\n1 -3 9 0\n"},
		"the greatest first":     {qbf(blocks(all(7), some(2)), ints(-2)), "p cnf 7 1\na 7 0\ne 2 0\n-2 0\n"},
		"equal clauses":          {qbf(blocks(some(1, 2)), ints(2), ints(1), ints(2)), "p cnf 2 3\ne 1 2 0\n2 0\n1 0\n2 0\n"},
		"the greatest variables": {qbf(blocks(all(65536), some(10, 100, 60000)), ints(10, -100, 60000, -65536)), "p cnf 65536 1\na 65536 0\ne 10 100 60000 0\n10 -100 60000 -65536 0\n"},
	} {
		if s, e := dimacs.Write(c.q); s != c.want || e != api.OK {
			t.Errorf("Write of %s: %q, %v", name, s, e)
		}
		if s := naiveWrite(c.q); s != c.want {
			t.Errorf("the naive text of %s: %q", name, s)
		}
	}
}

func TestWriteDeps(t *testing.T) {
	for name, c := range map[string]struct {
		d    api.Dqbf
		want string
	}{
		"nothing":                 {dqbf(nil, nil), "p cnf 0 0\n"},
		"empty lists":             {dqbf(ints(), rows(), [][]int{}...), "p cnf 0 0\n"},
		"an empty clause":         {dqbf(nil, nil, nil), "p cnf 0 1\n0\n"},
		"no rows":                 {dqbf(ints(3, 7), nil, ints(-3, 7)), "p cnf 7 1\na 3 7 0\n-3 7 0\n"},
		"no Univ":                 {dqbf(nil, rows(row(3), row(8)), ints(8)), "p cnf 8 1\nd 3 0\nd 8 0\n8 0\n"},
		"no clauses":              {dqbf(ints(1), rows(row(2, 1))), "p cnf 2 0\na 1 0\nd 2 1 0\n"},
		"the chapter's example":   {dqbf(ints(1, 2), rows(row(3, 1), row(4, 1, 2)), ints(3, 4)), "p cnf 4 1\na 1 2 0\nd 3 1 0\nd 4 1 2 0\n3 4 0\n"},
		"the greatest one in row": {dqbf(ints(2, 4), rows(row(1, 4), row(3, 2), row(5, 2, 4), row(9)), ints(-1, 2, -9), ints()), "p cnf 9 2\na 2 4 0\nd 1 4 0\nd 3 2 0\nd 5 2 4 0\nd 9 0\n-1 2 -9 0\n0\n"},
		"the greatest one in all": {dqbf(ints(2, 65536), rows(row(1, 65536)), ints(-65536)), "p cnf 65536 1\na 2 65536 0\nd 1 65536 0\n-65536 0\n"},
	} {
		if s, e := dimacs.WriteDeps(c.d); s != c.want || e != api.OK {
			t.Errorf("WriteDeps of %s: %q, %v", name, s, e)
		}
		if s := naiveWriteDeps(c.d); s != c.want {
			t.Errorf("the naive text of %s: %q", name, s)
		}
	}
}

func TestWriteOfAllSorts(t *testing.T) {
	dice := dice(70)
	for range 5000 {
		q := dice.qbf(14)
		if s, e := dimacs.Write(q); s != naiveWrite(q) || e != api.OK {
			t.Errorf("Write(%v) = %q, %v", q, s, e)
		}
		d := dice.dqbf(14)
		if s, e := dimacs.WriteDeps(d); s != naiveWriteDeps(d) || e != api.OK {
			t.Errorf("WriteDeps(%v) = %q, %v", d, s, e)
		}
	}
}

// notQbfs are Qbfs that are not valid.
func notQbfs() map[string]api.Qbf {
	qs := map[string]api.Qbf{
		"an empty block":            qbf(blocks(some(1), all())),
		"an empty block alone":      qbf(blocks(some())),
		"neighbours":                qbf(blocks(some(1), some(2))),
		"a variable twice":          qbf(blocks(some(1), all(2, 1))),
		"a variable 0":              qbf(blocks(some(0))),
		"a negative variable":       qbf(blocks(some(-1))),
		"a variable 65537":          qbf(blocks(some(65537))),
		"1025 variables":            qbf(blocks(some(variables(1, 1025)...))),
		"a clause of none":          qbf(nil, ints(1)),
		"a clause of another one":   qbf(blocks(some(1, 3)), ints(1, -2)),
		"a wrong clause behind":     qbf(blocks(some(1, 2)), ints(1), ints(2, 1)),
		"both literals":             qbf(blocks(some(1)), ints(-1, 1)),
		"20001 clauses":             qbf(blocks(some(1)), make([][]int, 20001)...),
		"200001 literals":           qbf(blocks(some(variables(1, 1024)...)), append(slices.Repeat([][]int{variables(1, 1000)}, 200), ints(1))...),
		"a prefix of the least int": qbf(blocks(some(oddInts[0]))),
	}
	for _, c := range loose {
		qs["the clause "+lineOf(nil, c...)] = qbf(blocks(some(1, 2, 3)), c)
	}
	return qs
}

func TestWriteOfWrong(t *testing.T) {
	for name, q := range notQbfs() {
		if s, e := dimacs.Write(q); s != "" || e != api.ErrArg {
			t.Errorf("Write of %s: %.40q, %v", name, s, e)
		}
	}
	one := rows(row(2, 1))
	ds := map[string]api.Dqbf{
		"Univ not in order":       dqbf(ints(3, 1), one),
		"Univ with one twice":     dqbf(ints(1, 1), one),
		"Univ with 0":             dqbf(ints(0, 1), one),
		"Univ with 65537":         dqbf(ints(1, 65537), one),
		"rows not in order":       dqbf(ints(1), rows(row(3), row(2))),
		"a row twice":             dqbf(ints(1), rows(row(2), row(2))),
		"a row of Univ":           dqbf(ints(1), rows(row(1))),
		"a row of 0":              dqbf(ints(1), rows(row(0))),
		"a row of 65537":          dqbf(ints(1), rows(row(65537))),
		"On not in order":         dqbf(ints(1, 2), rows(row(3, 2, 1))),
		"On with one twice":       dqbf(ints(1, 2), rows(row(3, 1, 1))),
		"On of none":              dqbf(nil, rows(row(3, 1))),
		"On of an existential":    dqbf(ints(1), rows(row(2), row(3, 2))),
		"On of itself":            dqbf(ints(1), rows(row(2, 2))),
		"1025 variables":          dqbf(ints(1025), make1024()),
		"a clause of another one": dqbf(ints(1), one, ints(1, 3)),
		"20001 clauses":           dqbf(ints(1), one, make([][]int, 20001)...),
		"200001 literals":         dqbf(nil, make1024(), append(slices.Repeat([][]int{variables(1, 1000)}, 200), ints(1))...),
	}
	for _, c := range loose {
		ds["the clause "+lineOf(nil, c...)] = dqbf(ints(1), rows(row(2), row(3)), c)
	}
	for name, d := range ds {
		if s, e := dimacs.WriteDeps(d); s != "" || e != api.ErrArg {
			t.Errorf("WriteDeps of %s: %.40q, %v", name, s, e)
		}
	}
}

// make1024 returns rows of the variables 1 to 1024.
func make1024() []api.Dep {
	var l []api.Dep
	for v := 1; v <= 1024; v++ {
		l = append(l, row(v))
	}
	return l
}

// largest returns a Qbf and a Dqbf with as many variables, clauses and literals as there may be.
func largest() (api.Qbf, api.Dqbf) {
	f := make([][]int, 20000)
	for i := range f {
		f[i] = variables(1+i%1015, 10+i%1015)
		f[i][i%10] *= -1
	}
	d := dqbf(variables(1, 512), nil, f...)
	for v := 513; v <= 1024; v++ {
		d.Exist = append(d.Exist, row(v, variables(1, 512)...))
	}
	return qbf(blocks(all(variables(513, 1024)...), some(variables(1, 512)...)), f...), d
}

func TestWriteAtLimits(t *testing.T) {
	q, d := largest()
	if s, e := dimacs.Write(q); s != naiveWrite(q) || !strings.HasPrefix(s, "p cnf 1024 ") || e != api.OK {
		t.Errorf("Write of the largest: %d bytes, %v", len(s), e)
	}
	if s, e := dimacs.WriteDeps(d); s != naiveWriteDeps(d) || len(s) < 1000000 || e != api.OK {
		t.Errorf("WriteDeps of the largest: %d bytes, %v", len(s), e)
	}
}
