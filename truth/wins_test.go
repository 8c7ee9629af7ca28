package truth_test

import (
	"slices"
	"testing"

	"skolem/api"
	"skolem/truth"
)

// P4.3

func TestWins(t *testing.T) {
	first := api.Dqbf{Univ: []int{1}, Exist: []api.Dep{row(2, 1)}, Clauses: unlike()}
	two := api.Dqbf{Univ: []int{1, 3}, Exist: []api.Dep{row(2, 1), row(4, 3)}, Clauses: [][]int{{-1, 2, 4}, {-2, -4}}}
	long := variables(1, 9)
	big := api.Dqbf{Univ: variables(1, 70), Exist: []api.Dep{row(80, variables(1, 64)...)}}
	for name, c := range map[string]struct {
		d    api.Dqbf
		l    []api.Table
		want bool
		e    api.Errno
	}{
		"nothing":                      {api.Dqbf{}, nil, true, api.OK},
		"no tables":                    {api.Dqbf{Univ: []int{1}}, []api.Table{}, true, api.OK},
		"the empty clause":             {api.Dqbf{Clauses: [][]int{{}}}, nil, false, api.OK},
		"no clauses":                   {api.Dqbf{Univ: []int{1}, Exist: []api.Dep{row(2)}}, []api.Table{table(2, "1")}, true, api.OK},
		"the chapter's example":        {first, []api.Table{table(2, "10", 1)}, true, api.OK},
		"its negation":                 {first, []api.Table{table(2, "01", 1)}, false, api.OK},
		"a constant":                   {first, []api.Table{table(2, "11", 1)}, false, api.OK},
		"two tables":                   {two, []api.Table{table(2, "00", 1), table(4, "11", 3)}, true, api.OK},
		"two others":                   {two, []api.Table{table(2, "01", 1), table(4, "00", 3)}, true, api.OK},
		"both true":                    {two, []api.Table{table(2, "01", 1), table(4, "01", 3)}, false, api.OK},
		"in another order":             {two, []api.Table{table(4, "11", 3), table(2, "00", 1)}, false, api.ErrArg},
		"another Var":                  {first, []api.Table{table(3, "10", 1)}, false, api.ErrArg},
		"another On":                   {two, []api.Table{table(2, "00", 3), table(4, "11", 3)}, false, api.ErrArg},
		"more On":                      {two, []api.Table{table(2, "00", 1), table(4, "1111", 1, 3)}, false, api.ErrArg},
		"less On":                      {two, []api.Table{table(2, "0"), table(4, "11", 3)}, false, api.ErrArg},
		"too few bits":                 {first, []api.Table{table(2, "1", 1)}, false, api.ErrArg},
		"too many bits":                {first, []api.Table{table(2, "101", 1)}, false, api.ErrArg},
		"no bits":                      {api.Dqbf{Exist: rowsOf(1, 1)}, []api.Table{{Var: 1}}, false, api.ErrArg},
		"one table too few":            {two, []api.Table{table(2, "00", 1)}, false, api.ErrArg},
		"one table too many":           {first, []api.Table{table(2, "10", 1), table(2, "10", 1)}, false, api.ErrArg},
		"a table of a universal one":   {first, []api.Table{table(1, "1"), table(2, "10", 1)}, false, api.ErrArg},
		"On that is turned":            {api.Dqbf{Univ: []int{1, 2}, Exist: []api.Dep{row(3, 1, 2)}}, []api.Table{table(3, "0000", 2, 1)}, false, api.ErrArg},
		"no table, and a wrong d":      {api.Dqbf{Univ: []int{2, 1}}, nil, false, api.ErrArg},
		"16 bits":                      {api.Dqbf{Univ: long[:4], Exist: []api.Dep{row(5, 1, 2, 3, 4)}, Clauses: parity(1, 2, 3, 4, 5)}, []api.Table{table(5, "0110100110010110", 1, 2, 3, 4)}, true, api.OK},
		"16 bits, one wrong":           {api.Dqbf{Univ: long[:4], Exist: []api.Dep{row(5, 1, 2, 3, 4)}, Clauses: parity(1, 2, 3, 4, 5)}, []api.Table{table(5, "0110100110010111", 1, 2, 3, 4)}, false, api.OK},
		"17 bits":                      {api.Dqbf{Exist: rowsOf(1, 17)}, cut(rowsOf(1, 17), make([]bool, 17)), false, api.ErrLong},
		"17 bits, wrong tables":        {api.Dqbf{Exist: rowsOf(1, 17)}, cut(rowsOf(1, 16), make([]bool, 16)), false, api.ErrArg},
		"17 bits, wrong clauses":       {api.Dqbf{Exist: rowsOf(1, 17), Clauses: [][]int{{18}}}, cut(rowsOf(1, 17), make([]bool, 17)), false, api.ErrArg},
		"9 universal ones":             {api.Dqbf{Univ: long}, nil, false, api.ErrLong},
		"9, and a wrong table":         {api.Dqbf{Univ: long}, []api.Table{table(10, "1")}, false, api.ErrArg},
		"9, a table of all":            {api.Dqbf{Univ: long, Exist: []api.Dep{row(10, long...)}}, []api.Table{{Var: 10, On: long, Bits: make([]bool, 512)}}, false, api.ErrLong},
		"9, a table of all, too short": {api.Dqbf{Univ: long, Exist: []api.Dep{row(10, long...)}}, []api.Table{{Var: 10, On: long, Bits: make([]bool, 511)}}, false, api.ErrArg},
		"2^64 bits, none":              {big, []api.Table{{Var: 80, On: variables(1, 64)}}, false, api.ErrArg},
		"2^64 bits, one":               {big, []api.Table{{Var: 80, On: variables(1, 64), Bits: []bool{true}}}, false, api.ErrArg},
		"2^20 bits":                    {api.Dqbf{Univ: variables(1, 20), Exist: []api.Dep{row(80, variables(1, 20)...)}}, []api.Table{{Var: 80, On: variables(1, 20), Bits: make([]bool, 1<<20)}}, false, api.ErrLong},
	} {
		if got, e := truth.Wins(c.d, c.l); got != c.want || e != c.e {
			t.Errorf("Wins of %s: %v, %v", name, got, e)
		}
	}
	for _, d := range notDqbfs() {
		if got, e := truth.Wins(d, cut(d.Exist, make([]bool, bitsOf(d.Exist)))); got || e != api.ErrArg {
			t.Errorf("Wins(%v, %v, %d clauses) = %v, %v", d.Univ, d.Exist, len(d.Clauses), got, e)
		}
	}
}

func TestWinsOfAllSorts(t *testing.T) {
	dice := dice(54)
	count := map[bool]int{}
	for i := range 3000 {
		d := dice.dqbf(8, 16)
		d.Clauses = d.Clauses[:len(d.Clauses)/2]
		l := dice.tables(d.Exist)
		got, e := truth.Wins(d, l)
		if got != naiveWins(d, l) || e != api.OK {
			t.Errorf("Wins(%v, %v) = %v, %v", d, l, got, e)
		}
		count[got]++
		if i%10 > 0 {
			continue
		}
		for _, wrong := range brokenTables(l) {
			if got, e := truth.Wins(d, wrong); got || e != api.ErrArg {
				t.Errorf("Wins(%v, %v) = %v, %v", d, wrong, got, e)
			}
		}
	}
	if count[true] < 500 || count[false] < 500 {
		t.Error(count)
	}
}

func TestLoses(t *testing.T) {
	second := api.Qbf{Prefix: []api.Block{some(2), all(1)}, Clauses: unlike()}
	two := api.Qbf{Prefix: []api.Block{some(5), all(4, 2)}, Clauses: [][]int{{2, -4, 5}, {-2, -4, -5}}}
	long := api.Qbf{Prefix: []api.Block{all(14), some(variables(1, 12)...), all(13)}}
	ones := func(n int) []bool { return slices.Repeat([]bool{true}, n) }
	twelve := api.Table{Var: 13, On: variables(1, 12), Bits: ones(4096)}
	for name, c := range map[string]struct {
		q    api.Qbf
		l    []api.Table
		want bool
		e    api.Errno
	}{
		"nothing":                    {api.Qbf{}, nil, false, api.OK},
		"the empty clause":           {api.Qbf{Clauses: [][]int{{}}}, []api.Table{}, true, api.OK},
		"no clauses":                 {api.Qbf{Prefix: []api.Block{all(1)}}, []api.Table{table(1, "1")}, false, api.OK},
		"no tables, true":            {api.Qbf{Prefix: []api.Block{some(1)}, Clauses: [][]int{{1}}}, nil, false, api.OK},
		"no tables, false":           {api.Qbf{Prefix: []api.Block{some(1)}, Clauses: [][]int{{1}, {-1}}}, nil, true, api.OK},
		"the chapter's example":      {second, []api.Table{table(1, "01", 2)}, true, api.OK},
		"its negation":               {second, []api.Table{table(1, "10", 2)}, false, api.OK},
		"a constant":                 {second, []api.Table{table(1, "00", 2)}, false, api.OK},
		"two tables":                 {two, []api.Table{table(4, "11", 5), table(2, "01", 5)}, true, api.OK},
		"in another order":           {two, []api.Table{table(2, "01", 5), table(4, "11", 5)}, false, api.ErrArg},
		"another Var":                {second, []api.Table{table(2, "01", 2)}, false, api.ErrArg},
		"another On":                 {second, []api.Table{table(1, "01", 1)}, false, api.ErrArg},
		"less On":                    {second, []api.Table{table(1, "0")}, false, api.ErrArg},
		"On of the one before":       {two, []api.Table{table(4, "11", 5), table(2, "0011", 4, 5)}, false, api.ErrArg},
		"On behind it":               {api.Qbf{Prefix: []api.Block{all(1), some(2)}}, []api.Table{table(1, "01", 2)}, false, api.ErrArg},
		"On in the prefix's order":   {api.Qbf{Prefix: []api.Block{some(3, 2), all(1)}}, []api.Table{table(1, "0000", 3, 2)}, false, api.ErrArg},
		"On that ascends":            {api.Qbf{Prefix: []api.Block{some(3, 2), all(1)}}, []api.Table{table(1, "0000", 2, 3)}, false, api.OK},
		"too few bits":               {second, []api.Table{table(1, "0", 2)}, false, api.ErrArg},
		"too many bits":              {second, []api.Table{table(1, "010", 2)}, false, api.ErrArg},
		"one table too few":          {two, []api.Table{table(4, "11", 5)}, false, api.ErrArg},
		"one table too many":         {second, []api.Table{table(1, "01", 2), table(1, "01", 2)}, false, api.ErrArg},
		"a table of an existential":  {second, []api.Table{table(2, "0"), table(1, "01", 2)}, false, api.ErrArg},
		"4096 bits":                  {api.Qbf{Prefix: long.Prefix[1:], Clauses: [][]int{{-13}}}, []api.Table{twelve}, true, api.OK},
		"4096 bits, all":             {api.Qbf{Prefix: long.Prefix[1:], Clauses: [][]int{{-13}, {1, 2}}}, []api.Table{{Var: 13, On: twelve.On, Bits: append(make([]bool, 4), ones(4092)...)}}, false, api.OK},
		"4097 bits":                  {long, []api.Table{table(14, "1"), twelve}, false, api.ErrLong},
		"4097 bits, wrong tables":    {long, []api.Table{table(14, "11"), twelve}, false, api.ErrArg},
		"16 universal ones":          {api.Qbf{Prefix: []api.Block{all(variables(1, 16)...)}, Clauses: [][]int{{-1, -16}}}, cut(rowsOf(1, 16), ones(16)), true, api.OK},
		"17 universal ones":          {api.Qbf{Prefix: []api.Block{all(variables(1, 17)...)}, Clauses: [][]int{{-1, -16}}}, cut(rowsOf(1, 17), ones(17)), false, api.ErrLong},
		"17, wrong tables":           {api.Qbf{Prefix: []api.Block{all(variables(1, 17)...)}, Clauses: [][]int{{-1, -16}}}, cut(rowsOf(1, 16), ones(16)), false, api.ErrArg},
		"17 existential ones":        {api.Qbf{Prefix: []api.Block{some(variables(1, 17)...)}}, nil, false, api.ErrLong},
		"16 existential ones, false": {api.Qbf{Prefix: []api.Block{some(variables(1, 16)...)}, Clauses: parity(3, 4)[:1]}, nil, false, api.OK},
		"2^64 bits":                  {api.Qbf{Prefix: []api.Block{some(variables(1, 64)...), all(70)}}, []api.Table{{Var: 70, On: variables(1, 64)}}, false, api.ErrArg},
		"2^20 bits":                  {api.Qbf{Prefix: []api.Block{some(variables(1, 20)...), all(70)}}, []api.Table{{Var: 70, On: variables(1, 20), Bits: ones(1 << 20)}}, false, api.ErrLong},
	} {
		if got, e := truth.Loses(c.q, c.l); got != c.want || e != c.e {
			t.Errorf("Loses of %s: %v, %v", name, got, e)
		}
	}
	for _, q := range notQbfs() {
		if got, e := truth.Loses(q, cut(universalRows(q.Prefix), make([]bool, 2000))); got || e != api.ErrArg {
			t.Errorf("Loses(%v, %d clauses) = %v, %v", q.Prefix, len(q.Clauses), got, e)
		}
	}
}

func TestLosesOfAllSorts(t *testing.T) {
	dice := dice(55)
	count := map[bool]int{}
	for i := range 3000 {
		q := dice.qbf(8)
		l := dice.tables(universalRows(q.Prefix))
		got, e := truth.Loses(q, l)
		if got != naiveLoses(q, l) || e != api.OK {
			t.Errorf("Loses(%v, %v) = %v, %v", q, l, got, e)
		}
		count[got]++
		if i%10 > 0 {
			continue
		}
		for _, wrong := range brokenTables(l) {
			if got, e := truth.Loses(q, wrong); got || e != api.ErrArg {
				t.Errorf("Loses(%v, %v) = %v, %v", q, wrong, got, e)
			}
		}
	}
	if count[true] < 500 || count[false] < 500 {
		t.Error(count)
	}
}
