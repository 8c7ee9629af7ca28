package truth_test

import (
	"slices"
	"strings"
	"testing"

	"skolem/api"
	"skolem/truth"
)

// P4.2

func TestSkolem(t *testing.T) {
	long := variables(1, 9)
	either := [][]int{{-1, 2, 4}, {-2, -4}}
	for name, c := range map[string]struct {
		d    api.Dqbf
		want []api.Table
		e    api.Errno
	}{
		"nothing":                     {api.Dqbf{}, nil, api.OK},
		"the empty clause":            {api.Dqbf{Clauses: [][]int{{}}}, nil, api.ErrNone},
		"the empty clause, a table":   {api.Dqbf{Exist: []api.Dep{row(1)}, Clauses: [][]int{{}}}, nil, api.ErrNone},
		"no clauses":                  {api.Dqbf{Univ: []int{1, 2}, Exist: []api.Dep{row(3, 1, 2), row(4)}}, []api.Table{table(3, "0000", 1, 2), table(4, "0")}, api.OK},
		"no existential variable":     {api.Dqbf{Univ: []int{1}}, nil, api.OK},
		"none, and a clause":          {api.Dqbf{Univ: []int{1}, Clauses: [][]int{{1}}}, nil, api.ErrNone},
		"the chapter's first example": {api.Dqbf{Univ: []int{1}, Exist: []api.Dep{row(2, 1)}, Clauses: unlike()}, []api.Table{table(2, "10", 1)}, api.OK},
		"the chapter's second one":    {api.Dqbf{Univ: []int{1}, Exist: []api.Dep{row(2)}, Clauses: unlike()}, nil, api.ErrNone},
		"the first bits count most":   {api.Dqbf{Univ: []int{1, 3}, Exist: []api.Dep{row(2, 1), row(4, 3)}, Clauses: either}, []api.Table{table(2, "00", 1), table(4, "11", 3)}, api.OK},
		"false comes first":           {api.Dqbf{Exist: rowsOf(1, 3), Clauses: [][]int{{1, 2, 3}, {1, -3}}}, []api.Table{table(1, "0"), table(2, "1"), table(3, "0")}, api.OK},
		"Exist counts, not clauses":   {api.Dqbf{Exist: rowsOf(1, 2), Clauses: [][]int{{2}, {1, 2}, {-1, -2}}}, []api.Table{table(1, "0"), table(2, "1")}, api.OK},
		"the order of the bits":       {api.Dqbf{Univ: []int{4, 9}, Exist: []api.Dep{row(7, 4, 9)}, Clauses: [][]int{{-4, 7, 9}, {4, -7}}}, []api.Table{table(7, "0100", 4, 9)}, api.OK},
		"16 bits, the last list":      {api.Dqbf{Univ: long[:8], Exist: []api.Dep{row(9, 1, 3, 5, 7)}, Clauses: [][]int{{9}}}, []api.Table{table(9, "1111111111111111", 1, 3, 5, 7)}, api.OK},
		"16 bits in two":              {api.Dqbf{Univ: []int{1, 2, 3}, Exist: []api.Dep{row(8, 1, 2, 3), row(9, 1, 2, 3)}, Clauses: slices.Concat(parity(1, 2, 8), parity(2, 3, 9))}, []api.Table{table(8, "01100110", 1, 2, 3), table(9, "00111100", 1, 2, 3)}, api.OK},
		"17 bits":                     {api.Dqbf{Univ: long[:8], Exist: []api.Dep{row(9, 1, 3, 5, 7), row(10)}}, nil, api.ErrLong},
		"17 bits, false":              {api.Dqbf{Exist: rowsOf(1, 17), Clauses: [][]int{{}}}, nil, api.ErrLong},
		"9 universal ones":            {api.Dqbf{Univ: long}, nil, api.ErrLong},
		"9 universal ones, false":     {api.Dqbf{Univ: long, Clauses: [][]int{{}}}, nil, api.ErrLong},
	} {
		if got, e := truth.Skolem(c.d); !sameTables(got, c.want) || e != c.e {
			t.Errorf("Skolem of %s: %v, %v", name, got, e)
		}
	}
	for _, d := range notDqbfs() {
		if got, e := truth.Skolem(d); got != nil || e != api.ErrArg {
			t.Errorf("Skolem(%v, %v, %d clauses) = %v, %v", d.Univ, d.Exist, len(d.Clauses), got, e)
		}
	}
}

func TestSkolemOfAllSorts(t *testing.T) {
	dice := dice(52)
	ones := 0
	for range 2500 {
		d := dice.dqbf(7, 9)
		got, e := truth.Skolem(d)
		want, is := naiveSkolem(d)
		if !sameTables(got, want) || is != (e == api.OK) || !is && e != api.ErrNone {
			t.Errorf("Skolem(%v) = %v, %v, not %v", d, got, e, want)
		}
		for _, t := range got {
			if slices.Contains(t.Bits, true) {
				ones++
			}
		}
	}
	if ones < 300 {
		t.Errorf("%d tables are not 0", ones)
	}
}

// TestHerbrand: want are the tables' bits alone, one text for each.
func TestHerbrand(t *testing.T) {
	even := api.Qbf{Prefix: []api.Block{all(1), some(4), all(3), some(2)}, Clauses: parity(1, 3, 4)}
	wide := append(variables(1, 12), 14)
	for name, c := range map[string]struct {
		q    api.Qbf
		want []api.Table
		e    api.Errno
	}{
		"nothing":                     {api.Qbf{}, nil, api.ErrNone},
		"the empty clause":            {api.Qbf{Clauses: [][]int{{}}}, nil, api.OK},
		"no universal variable":       {api.Qbf{Prefix: []api.Block{some(1)}, Clauses: [][]int{{1}, {-1}}}, nil, api.OK},
		"the chapter's first example": {api.Qbf{Prefix: []api.Block{all(1), some(2)}, Clauses: unlike()}, nil, api.ErrNone},
		"the chapter's second one":    {api.Qbf{Prefix: []api.Block{some(2), all(1)}, Clauses: unlike()}, []api.Table{table(1, "01", 2)}, api.OK},
		"none before it":              {api.Qbf{Prefix: []api.Block{all(1), some(2)}, Clauses: [][]int{{-1}}}, []api.Table{table(1, "1")}, api.OK},
		"false wins":                  {api.Qbf{Prefix: []api.Block{all(1), some(2)}, Clauses: [][]int{{1}, {-1}}}, []api.Table{table(1, "0")}, api.OK},
		"the empty clause, a table":   {api.Qbf{Prefix: []api.Block{some(2), all(1)}, Clauses: [][]int{{}}}, []api.Table{table(1, "00", 2)}, api.OK},
		"where it has no answer":      {api.Qbf{Prefix: []api.Block{all(3), some(2), all(1)}, Clauses: [][]int{{-1, 2, -3}, {-2, -3}}}, []api.Table{table(3, "1"), table(1, "10", 2)}, api.OK},
		"both in one block":           {api.Qbf{Prefix: []api.Block{some(5), all(4, 2)}, Clauses: [][]int{{2, -4, 5}, {-2, -4, -5}}}, []api.Table{table(4, "11", 5), table(2, "01", 5)}, api.OK},
		"turned":                      {api.Qbf{Prefix: []api.Block{some(5), all(2, 4)}, Clauses: [][]int{{2, -4, 5}, {-2, -4, -5}}}, []api.Table{table(2, "01", 5), table(4, "11", 5)}, api.OK},
		"the first table decides":     {even, []api.Table{table(1, "0"), table(3, "10", 4)}, api.OK},
		"On ascends":                  {api.Qbf{Prefix: []api.Block{some(9, 4), all(1), some(7, 2), all(3)}, Clauses: parity(3, 4, 9)}, []api.Table{table(1, "0000", 4, 9), table(3, "1100110000110011", 2, 4, 7, 9)}, api.OK},
		"4096 bits":                   {api.Qbf{Prefix: []api.Block{some(variables(1, 12)...), all(13)}, Clauses: [][]int{{1, -13}, {-1, 13}}}, []api.Table{table(13, strings.Repeat("1010", 1024), variables(1, 12)...)}, api.OK},
		"4097 bits":                   {api.Qbf{Prefix: []api.Block{all(14), some(variables(1, 12)...), all(13)}, Clauses: [][]int{{13}}}, nil, api.ErrLong},
		"4097 bits, true":             {api.Qbf{Prefix: []api.Block{all(14), some(variables(1, 12)...), all(13)}}, nil, api.ErrLong},
		"8192 bits":                   {api.Qbf{Prefix: []api.Block{some(wide...), all(13)}, Clauses: [][]int{{13}}}, nil, api.ErrLong},
		"8192 bits in two":            {api.Qbf{Prefix: []api.Block{some(wide[:12]...), all(13, 14)}, Clauses: [][]int{{13}}}, nil, api.ErrLong},
		"16 existential ones":         {api.Qbf{Prefix: []api.Block{some(variables(1, 16)...)}, Clauses: [][]int{{3}, {-3}}}, nil, api.OK},
		"17 variables":                {api.Qbf{Prefix: []api.Block{all(variables(1, 17)...)}}, nil, api.ErrLong},
		"17 variables, false":         {api.Qbf{Prefix: []api.Block{all(variables(1, 16)...), some(17)}, Clauses: [][]int{{}}}, nil, api.ErrLong},
	} {
		if got, e := truth.Herbrand(c.q); !sameTables(got, c.want) || e != c.e {
			t.Errorf("Herbrand of %s: %v, %v", name, got, e)
		}
	}
	for _, q := range notQbfs() {
		if got, e := truth.Herbrand(q); got != nil || e != api.ErrArg {
			t.Errorf("Herbrand(%v, %d clauses) = %v, %v", q.Prefix, len(q.Clauses), got, e)
		}
	}
}

func TestHerbrandOfAllSorts(t *testing.T) {
	dice := dice(53)
	mixed := 0
	for range 3000 {
		q := dice.qbf(8)
		got, e := truth.Herbrand(q)
		if isLeft(q, nil) {
			if got != nil || e != api.ErrNone {
				t.Errorf("Herbrand(%v) = %v, %v", q, got, e)
			}
			continue
		}
		if want := naiveHerbrand(q); !sameTables(got, want) || e != api.OK {
			t.Errorf("Herbrand(%v) = %v, %v, not %v", q, got, e, want)
		}
		for _, t := range got {
			if slices.Contains(t.Bits, true) && slices.Contains(t.Bits, false) {
				mixed++
			}
		}
	}
	if mixed < 300 {
		t.Errorf("%d tables are mixed", mixed)
	}
}

// TestHerbrandOf16: 16 variables, the last one behind all others.
func TestHerbrandOf16(t *testing.T) {
	q := api.Qbf{Prefix: []api.Block{all(16, 1, 2, 3, 4, 5), some(6, 7), all(8, 9, 10, 11, 12), some(13, 14), all(15)}}
	for _, f := range [][][]int{evenly(), parity(1, 7, 15), parity(6, 8, 16), {append(variables(1, 5), 8, 9, 10, 11, 12, 15, 16)}} {
		q.Clauses = f
		got, e := truth.Herbrand(q)
		if e != api.OK || !naiveLoses(q, got) {
			t.Errorf("Herbrand of %d clauses: %v, %v", len(f), got, e)
		}
		if len(f) < 100 && !sameTables(got, naiveHerbrand(q)) {
			t.Errorf("Herbrand of %v: %v", f, got)
		}
	}
}
