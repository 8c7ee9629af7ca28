package truth_test

import (
	"slices"
	"testing"

	"skolem/api"
	"skolem/prefix"
	"skolem/truth"
)

// P4.1

// unlike are the clauses that say that 1 and 2 differ.
func unlike() [][]int { return [][]int{{1, 2}, {-1, -2}} }

func TestQbf(t *testing.T) {
	for name, c := range map[string]struct {
		q    api.Qbf
		want api.Value
		e    api.Errno
	}{
		"nothing":                            {api.Qbf{}, api.True, api.OK},
		"empty lists":                        {api.Qbf{Prefix: []api.Block{}, Clauses: [][]int{}}, api.True, api.OK},
		"the empty clause":                   {api.Qbf{Clauses: [][]int{{}}}, api.False, api.OK},
		"the empty clause twice":             {api.Qbf{Clauses: [][]int{nil, nil}}, api.False, api.OK},
		"no clauses":                         {api.Qbf{Prefix: []api.Block{all(1, 2), some(3)}}, api.True, api.OK},
		"the empty clause among others":      {api.Qbf{Prefix: []api.Block{some(1, 2)}, Clauses: [][]int{{1}, {}, {2}}}, api.False, api.OK},
		"the chapter's first example":        {api.Qbf{Prefix: []api.Block{all(1), some(2)}, Clauses: unlike()}, api.True, api.OK},
		"the chapter's second example":       {api.Qbf{Prefix: []api.Block{some(2), all(1)}, Clauses: unlike()}, api.False, api.OK},
		"one block, existential":             {api.Qbf{Prefix: []api.Block{some(2, 1)}, Clauses: unlike()}, api.True, api.OK},
		"one block, universal":               {api.Qbf{Prefix: []api.Block{all(2, 1)}, Clauses: unlike()}, api.False, api.OK},
		"blocks of several variables":        {api.Qbf{Prefix: []api.Block{all(3, 1), some(4, 2)}, Clauses: [][]int{{1, 2}, {-1, -2}, {3, -4}, {-3, 4}}}, api.True, api.OK},
		"blocks of several, turned":          {api.Qbf{Prefix: []api.Block{some(4, 2), all(3, 1)}, Clauses: [][]int{{1, 2}, {-1, -2}, {3, -4}, {-3, 4}}}, api.False, api.OK},
		"a universal unit":                   {api.Qbf{Prefix: []api.Block{all(7), some(5)}, Clauses: [][]int{{7}}}, api.False, api.OK},
		"an existential unit":                {api.Qbf{Prefix: []api.Block{all(7), some(5)}, Clauses: [][]int{{-5}}}, api.True, api.OK},
		"units against each other":           {api.Qbf{Prefix: []api.Block{some(5)}, Clauses: [][]int{{-5}, {5}}}, api.False, api.OK},
		"variables that no clause has":       {api.Qbf{Prefix: []api.Block{all(9), some(5), all(8, 65536), some(3)}, Clauses: [][]int{{3, -65536}}}, api.True, api.OK},
		"the greatest variables":             {api.Qbf{Prefix: []api.Block{all(65536), some(65535)}, Clauses: [][]int{{65535, 65536}, {-65535, -65536}}}, api.True, api.OK},
		"16 variables":                       {api.Qbf{Prefix: []api.Block{all(variables(1, 16)...)}}, api.True, api.OK},
		"17 variables":                       {api.Qbf{Prefix: []api.Block{all(variables(1, 17)...)}}, api.Unknown, api.ErrLong},
		"17 variables in two blocks":         {api.Qbf{Prefix: []api.Block{all(variables(1, 16)...), some(17)}}, api.Unknown, api.ErrLong},
		"17 variables, and the empty clause": {api.Qbf{Prefix: []api.Block{all(17), some(variables(1, 16)...)}, Clauses: [][]int{{}}}, api.Unknown, api.ErrLong},
		"1024 variables":                     {api.Qbf{Prefix: []api.Block{some(variables(1, 1024)...)}}, api.Unknown, api.ErrLong},
	} {
		if got, e := truth.Qbf(c.q); got != c.want || e != c.e {
			t.Errorf("Qbf of %s: %v, %v", name, got, e)
		}
	}
	for _, q := range notQbfs() {
		if got, e := truth.Qbf(q); got != api.Unknown || e != api.ErrArg {
			t.Errorf("Qbf(%v, %d clauses) = %v, %v", q.Prefix, len(q.Clauses), got, e)
		}
	}
}

func TestQbfOfAllSorts(t *testing.T) {
	dice := dice(50)
	count := map[api.Value]int{}
	for range 3000 {
		q := dice.qbf(8)
		got, e := truth.Qbf(q)
		if got != valueOf(isLeft(q, nil)) || e != api.OK {
			t.Errorf("Qbf(%v) = %v, %v", q, got, e)
		}
		count[got]++
	}
	if count[api.True] < 500 || count[api.False] < 500 {
		t.Error(count)
	}
}

// TestQbfOf16: all of 16 variables count, and where they stand does.
func TestQbfOf16(t *testing.T) {
	vars := variables(1, 16)
	for i, c := range []struct {
		p    []api.Block
		want api.Value
	}{
		{[]api.Block{all(2, 3, 4, 5, 6, 7, 8, 9, 10, 11, 1, 15, 14, 13), some(16, 12)}, api.True},
		{[]api.Block{all(vars[1:]...), some(1)}, api.False},
		{[]api.Block{all(vars[:15]...), some(16)}, api.False},
		{[]api.Block{all(vars[8:]...), some(vars[:8]...)}, api.True},
		{[]api.Block{some(2, 7, 6, 5, 4, 3), all(vars[8:]...), some(8, 1)}, api.True},
		{[]api.Block{some(vars[:7]...), all(vars[8:]...), some(8)}, api.False},
		{[]api.Block{some(16, 12), all(slices.Concat(vars[:11], vars[12:15])...)}, api.False},
		{[]api.Block{some(vars[1:]...), all(1)}, api.False},
		{[]api.Block{some(vars...)}, api.True},
		{[]api.Block{all(vars...)}, api.False},
	} {
		q := api.Qbf{Prefix: c.p, Clauses: parity(vars[3*(i%3)], vars[10], 16)}
		q.Clauses = append(q.Clauses, vars)
		if got, e := truth.Qbf(q); got != valueOf(isLeft(q, nil)) || e != api.OK {
			t.Errorf("Qbf of %v and few clauses: %v, %v", c.p, got, e)
		}
		q.Clauses = evenly()
		if got, e := truth.Qbf(q); got != c.want || e != api.OK {
			t.Errorf("Qbf of %v: %v, %v", c.p, got, e)
		}
	}
}

// evenly returns clauses of the variables 1 to 16 that say that the number of true ones among 1 to 12 is even, and that of 13 to 16 together with 1.
func evenly() [][]int {
	return slices.Concat(parity(variables(1, 12)...), parity(1, 13, 14, 15, 16))
}

func TestDqbf(t *testing.T) {
	long := variables(1, 9)
	two := [][]int{{1, 2}, {3, 4}}
	for name, c := range map[string]struct {
		d    api.Dqbf
		want api.Value
		e    api.Errno
	}{
		"nothing":                     {api.Dqbf{}, api.True, api.OK},
		"empty lists":                 {api.Dqbf{Univ: []int{}, Exist: []api.Dep{}, Clauses: [][]int{}}, api.True, api.OK},
		"the empty clause":            {api.Dqbf{Clauses: [][]int{{}}}, api.False, api.OK},
		"no clauses":                  {api.Dqbf{Univ: []int{1}, Exist: []api.Dep{row(2)}}, api.True, api.OK},
		"the chapter's first example": {api.Dqbf{Univ: []int{1}, Exist: []api.Dep{row(2, 1)}, Clauses: unlike()}, api.True, api.OK},
		"the chapter's second one":    {api.Dqbf{Univ: []int{1}, Exist: []api.Dep{row(2)}, Clauses: unlike()}, api.False, api.OK},
		"the chapter's third one":     {api.Dqbf{Univ: []int{1, 3}, Exist: []api.Dep{row(2, 1), row(4, 3)}, Clauses: [][]int{{-1, 2, 4}, {-2, -4}}}, api.True, api.OK},
		"each asks for the other":     {api.Dqbf{Univ: []int{1, 3}, Exist: []api.Dep{row(2, 1), row(4, 3)}, Clauses: [][]int{{2, -3}, {-2, 3}}}, api.False, api.OK},
		"8 universal ones":            {api.Dqbf{Univ: long[:8], Exist: []api.Dep{row(9, 3, 8)}, Clauses: parity(3, 8, 9)}, api.True, api.OK},
		"8 universal ones, false":     {api.Dqbf{Univ: long[:8], Exist: []api.Dep{row(9, 3, 7)}, Clauses: parity(3, 8, 9)}, api.False, api.OK},
		"9 universal ones":            {api.Dqbf{Univ: long}, api.Unknown, api.ErrLong},
		"9, and the empty clause":     {api.Dqbf{Univ: long, Clauses: [][]int{{}}}, api.Unknown, api.ErrLong},
		"16 bits in one table":        {api.Dqbf{Univ: long[:8], Exist: []api.Dep{row(9, 2, 4, 6, 8)}, Clauses: parity(2, 4, 6, 8, 9)}, api.True, api.OK},
		"32 bits in one table":        {api.Dqbf{Univ: long[:8], Exist: []api.Dep{row(9, 2, 4, 6, 7, 8)}}, api.Unknown, api.ErrLong},
		"17 bits in two":              {api.Dqbf{Univ: long[:8], Exist: []api.Dep{row(9, 2, 4, 6, 8), row(10)}}, api.Unknown, api.ErrLong},
		"16 bits in two":              {api.Dqbf{Univ: []int{1, 2, 3}, Exist: []api.Dep{row(8, 1, 2, 3), row(9, 1, 2, 3)}, Clauses: slices.Concat(parity(1, 2, 8), parity(2, 3, 9))}, api.True, api.OK},
		"16 bits in 16":               {api.Dqbf{Exist: rowsOf(1, 16), Clauses: two}, api.True, api.OK},
		"17 bits in 17":               {api.Dqbf{Exist: rowsOf(1, 17), Clauses: two}, api.Unknown, api.ErrLong},
		"the most bits":               {api.Dqbf{Univ: long[:8], Exist: []api.Dep{row(9, long[:8]...), row(10, long[:8]...)}}, api.Unknown, api.ErrLong},
		"1024 variables":              {api.Dqbf{Univ: variables(1, 512), Exist: []api.Dep{row(513, variables(1, 512)...)}}, api.Unknown, api.ErrLong},
		"1024 existential ones":       {api.Dqbf{Exist: rowsOf(1, 1024)}, api.Unknown, api.ErrLong},
	} {
		if got, e := truth.Dqbf(c.d); got != c.want || e != c.e {
			t.Errorf("Dqbf of %s: %v, %v", name, got, e)
		}
	}
	for _, d := range notDqbfs() {
		if got, e := truth.Dqbf(d); got != api.Unknown || e != api.ErrArg {
			t.Errorf("Dqbf(%v, %v, %d clauses) = %v, %v", d.Univ, d.Exist, len(d.Clauses), got, e)
		}
	}
}

func TestDqbfOfAllSorts(t *testing.T) {
	dice := dice(51)
	count := map[api.Value]int{}
	branched := 0
	for range 2500 {
		d := dice.dqbf(7, 9)
		got, e := truth.Dqbf(d)
		if _, is := naiveSkolem(d); got != valueOf(is) || e != api.OK {
			t.Errorf("Dqbf(%v) = %v, %v", d, got, e)
		}
		count[got]++
		if _, e := prefix.Linear(d); e == api.ErrLinear {
			branched++
		}
	}
	if count[api.True] < 400 || count[api.False] < 400 || branched < 100 {
		t.Error(count, branched)
	}
}

// TestManyClauses: formulas at the limits of a CNF are decided soon, also if their clauses are repeated or are all different.
func TestManyClauses(t *testing.T) {
	vars := variables(1, 24)
	var short, wide [][]int
	for _, c := range assignmentsOf(vars[:14]) {
		short = append(short, slices.DeleteFunc(c, func(lit int) bool { return lit < 0 && lit > -9 }))
	}
	for _, a := range assignmentsOf(vars[8:22]) {
		wide = append(wide, a[:10])
	}
	for i, f := range [][][]int{
		slices.Repeat([][]int{{-1}}, 20000), slices.Repeat([][]int{{-9}, {16}}, 10000), slices.Repeat([][]int{{9}, {-1, 10}}, 10000), short[:14000], wide, slices.Repeat([][]int{nil}, 20000),
	} {
		d := api.Dqbf{Univ: vars[:8], Exist: rowsOf(9, 24), Clauses: f}
		if _, e := truth.Dqbf(d); e != api.OK {
			t.Errorf("Dqbf of %d: %v", i, e)
		}
		if i == 4 {
			continue
		}
		q := api.Qbf{Prefix: []api.Block{all(vars[:4]...), some(vars[4:8]...), all(vars[8:12]...), some(vars[12:16]...)}, Clauses: f}
		if _, e := truth.Qbf(q); e != api.OK {
			t.Errorf("Qbf of %d: %v", i, e)
		}
		if _, e := truth.Loses(q, cut(universalRows(q.Prefix), make([]bool, 4+4*16))); e != api.OK {
			t.Errorf("Loses of %d: %v", i, e)
		}
	}
}

// rowsOf returns rows of the variables from, .. to that depend on nothing.
func rowsOf(from, to int) []api.Dep {
	var rows []api.Dep
	for _, v := range variables(from, to) {
		rows = append(rows, row(v))
	}
	return rows
}
