package prefix_test

import (
	"math"
	"slices"
	"testing"

	"skolem/api"
	"skolem/prefix"
)

// P3.2

func sameQbf(a, b api.Qbf) bool {
	return samePrefix(a.Prefix, b.Prefix) && sameLists(a.Clauses, b.Clauses)
}

func TestJoin(t *testing.T) {
	for name, c := range map[string]struct {
		p, want []api.Block
		e       api.Errno
	}{
		"nil":                          {nil, nil, api.OK},
		"no blocks":                    {[]api.Block{}, nil, api.OK},
		"empty blocks":                 {[]api.Block{some(), all(), all()}, nil, api.OK},
		"the chapter's example":        {[]api.Block{all(2), some(), all(1), some(3)}, []api.Block{all(2, 1), some(3)}, api.OK},
		"many neighbours":              {[]api.Block{some(9, 8), some(), some(1), some(5), all(7), all(), all(65536), some(2)}, []api.Block{some(9, 8, 1, 5), all(7, 65536), some(2)}, api.OK},
		"a valid prefix":               {example(), example(), api.OK},
		"0":                            {[]api.Block{some(0)}, nil, api.ErrArg},
		"a negative number":            {[]api.Block{some(1), all(-2)}, nil, api.ErrArg},
		"beyond MaxVar":                {[]api.Block{some(1), all(65537)}, nil, api.ErrArg},
		"the least int":                {[]api.Block{all(math.MinInt)}, nil, api.ErrArg},
		"a number twice":               {[]api.Block{all(3, 3)}, nil, api.ErrArg},
		"a number in two blocks":       {[]api.Block{all(3), some(1), some(3)}, nil, api.ErrArg},
		"1024 variables":               {[]api.Block{all(variables(2, 1000)...), all(variables(1001, 1025)...)}, []api.Block{all(variables(2, 1025)...)}, api.OK},
		"1025 variables":               {[]api.Block{all(variables(1, 1025)...)}, nil, api.ErrLong},
		"1025 in two blocks":           {[]api.Block{all(variables(2, 1025)...), some(1)}, nil, api.ErrLong},
		"all variables":                {[]api.Block{all(variables(1, 65536)...)}, nil, api.ErrLong},
		"all variables and one more":   {[]api.Block{all(variables(1, 65537)...)}, nil, api.ErrArg},
		"too many, and one twice":      {[]api.Block{all(variables(1, 1025)...), some(7)}, nil, api.ErrArg},
		"too many, and a wrong number": {[]api.Block{all(variables(1, 1025)...), some(0)}, nil, api.ErrArg},
	} {
		if got, e := prefix.Join(c.p); !samePrefix(got, c.want) || e != c.e {
			t.Errorf("Join of %s: %v, %v", name, got, e)
		}
	}
	for _, p := range slices.Concat(anyPrefixes(), prefixesOf(4, [][]int{nil, {2}, {3, 1}})) {
		got, e := prefix.Join(p)
		if want, f := naiveJoin(p); !samePrefix(got, want) || e != f {
			t.Errorf("Join(%v) = %v, %v", p, got, e)
		}
	}
}

func TestJoinOfMany(t *testing.T) {
	var p []api.Block
	for v := 1; v <= 1024; v++ {
		p = append(p, all(), some(), all(v), some())
	}
	if got, e := prefix.Join(p); !samePrefix(got, []api.Block{all(variables(1, 1024)...)}) || e != api.OK {
		t.Errorf("Join of blocks of one variable: %d blocks, %v", len(got), e)
	}
	if got, e := prefix.Join(append(p, some(65536))); len(got) != 0 || e != api.ErrLong {
		t.Errorf("Join of one more: %d blocks, %v", len(got), e)
	}
	if got, e := prefix.Join(slices.Repeat([]api.Block{some(), some(), all()}, 300000)); len(got) != 0 || e != api.OK {
		t.Errorf("Join of empty blocks: %d blocks, %v", len(got), e)
	}
}

func TestLess(t *testing.T) {
	for _, c := range []struct {
		p    []api.Block
		vars []int
		want []api.Block
		e    api.Errno
	}{
		{nil, nil, nil, api.OK}, {nil, []int{1}, nil, api.OK}, {example(), nil, example(), api.OK},
		{example(), []int{1, 2, 9}, []api.Block{some(5, 3), all(4)}, api.OK},
		{example(), []int{3}, []api.Block{some(5), all(1, 2, 4)}, api.OK},
		{example(), []int{5, 2, 5, 4}, []api.Block{all(1), some(3)}, api.OK},
		{example(), []int{5, 4, 3, 2, 1}, nil, api.OK},
		{example(), []int{0, -1, 6, 65537, math.MinInt, math.MaxInt}, example(), api.OK},
		{example(), slices.Repeat([]int{2, 3, 7}, 300000), []api.Block{some(5), all(1, 4)}, api.OK},
		{[]api.Block{some()}, nil, nil, api.ErrArg},
		{[]api.Block{some(1), some(2)}, []int{1, 2}, nil, api.ErrArg},
		{[]api.Block{some(1, 1)}, []int{1}, nil, api.ErrArg},
		{[]api.Block{some(0)}, []int{0}, nil, api.ErrArg},
		{[]api.Block{some(variables(1, 1025)...)}, []int{1025}, nil, api.ErrArg},
		{[]api.Block{some(variables(1, 1024)...)}, variables(2, 70000), []api.Block{some(1)}, api.OK},
	} {
		if got, e := prefix.Less(c.p, c.vars); !samePrefix(got, c.want) || e != c.e {
			t.Errorf("Less(%v, %v..) = %v, %v", c.p, c.vars[:min(9, len(c.vars))], got, e)
		}
	}
	dice := dice(35)
	for range 5000 {
		p := dice.prefix(dice.below(14))
		if dice.below(4) == 0 {
			p = dice.brokenPrefix(p)
		}
		vars := dice.part(dice.mixed(15))
		got, e := prefix.Less(p, vars)
		if want, f := naiveLess(p, vars); !samePrefix(got, want) || e != f {
			t.Errorf("Less(%v, %v) = %v, %v", p, vars, got, e)
		}
	}
}

func TestClose(t *testing.T) {
	full := variables(1, 1020)
	for name, c := range map[string]struct {
		q    api.Qbf
		want []api.Block
		e    api.Errno
	}{
		"nothing":                   {api.Qbf{}, nil, api.OK},
		"the empty clause":          {api.Qbf{Clauses: [][]int{{}}}, nil, api.OK},
		"no blocks":                 {api.Qbf{Clauses: [][]int{{-7, 65536}, {3, 7}}}, []api.Block{some(3, 7, 65536)}, api.OK},
		"the chapter's example":     {api.Qbf{Prefix: []api.Block{all(1)}, Clauses: [][]int{{1, -2, 3}}}, []api.Block{some(2, 3), all(1)}, api.OK},
		"an existential first":      {api.Qbf{Prefix: []api.Block{some(9), all(1)}, Clauses: [][]int{{1, -4}, {-2, 4, 9}}}, []api.Block{some(9, 2, 4), all(1)}, api.OK},
		"an existential inside":     {api.Qbf{Prefix: []api.Block{all(1), some(9)}, Clauses: [][]int{{2}, {2, 9}}}, []api.Block{some(2), all(1), some(9)}, api.OK},
		"closed":                    {api.Qbf{Prefix: example(), Clauses: [][]int{{1, -5}}}, example(), api.OK},
		"closed, universal first":   {api.Qbf{Prefix: []api.Block{all(2, 1)}, Clauses: [][]int{{-1}}}, []api.Block{all(2, 1)}, api.OK},
		"1024 variables":            {api.Qbf{Prefix: []api.Block{all(full...)}, Clauses: [][]int{{-2000, 2001}, {5, 1999}, {3000}}}, []api.Block{some(1999, 2000, 2001, 3000), all(full...)}, api.OK},
		"1024 variables, some":      {api.Qbf{Prefix: []api.Block{some(full...)}, Clauses: [][]int{{-2000, 2001}, {5, 1999}, {3000}}}, []api.Block{some(append(slices.Clone(full), 1999, 2000, 2001, 3000)...)}, api.OK},
		"1025 variables":            {api.Qbf{Prefix: []api.Block{all(full...)}, Clauses: [][]int{{-2000, 2001}, {5, 1999}, {3000, 3001}}}, nil, api.ErrLong},
		"1025 in the clauses":       {api.Qbf{Clauses: [][]int{variables(1, 1025)}}, nil, api.ErrLong},
		"all in the clauses":        {api.Qbf{Clauses: [][]int{variables(1, 65536)}}, nil, api.ErrLong},
		"a prefix of 1025":          {api.Qbf{Prefix: []api.Block{all(variables(1, 1025)...)}}, nil, api.ErrArg},
		"too many, and no CNF":      {api.Qbf{Clauses: [][]int{variables(1, 1025), {0}}}, nil, api.ErrArg},
		"an empty block":            {api.Qbf{Prefix: []api.Block{some()}, Clauses: [][]int{{1}}}, nil, api.ErrArg},
		"neighbours":                {api.Qbf{Prefix: []api.Block{some(1), some(2)}}, nil, api.ErrArg},
		"a variable in two blocks":  {api.Qbf{Prefix: []api.Block{some(1), all(1)}, Clauses: [][]int{{1}}}, nil, api.ErrArg},
		"a number that is no other": {api.Qbf{Prefix: []api.Block{some(-1)}, Clauses: [][]int{{1}}}, nil, api.ErrArg},
	} {
		got, e := prefix.Close(c.q)
		if !samePrefix(got.Prefix, c.want) || e != c.e {
			t.Errorf("Close of %s: %v, %v", name, got.Prefix, e)
		}
		if e == api.OK && !sameLists(got.Clauses, c.q.Clauses) || e != api.OK && len(got.Clauses) != 0 {
			t.Errorf("Close of %s: %d clauses with %v", name, len(got.Clauses), e)
		}
	}
	for _, f := range looseCnfs() {
		for _, p := range [][]api.Block{nil, example()} {
			if got, e := prefix.Close(api.Qbf{Prefix: p, Clauses: f}); !sameQbf(got, api.Qbf{}) || e != api.ErrArg {
				t.Errorf("Close of %d clauses, %v..: %v, %v", len(f), f[:min(3, len(f))], got.Prefix, e)
			}
		}
	}
}

func TestCloseOfAllSorts(t *testing.T) {
	dice := dice(36)
	for range 10000 {
		q := api.Qbf{Prefix: dice.prefix(dice.below(8)), Clauses: dice.clauses(3, variables(1, 10))}
		switch dice.below(8) {
		case 0:
			q.Prefix = dice.brokenPrefix(q.Prefix)
		case 1:
			q.Clauses = dice.broken(q.Clauses)
		}
		got, e := prefix.Close(q)
		if want, f := naiveClose(q); !sameQbf(got, want) || e != f {
			t.Errorf("Close(%v) = %v, %v", q, got, e)
		}
		if e == api.OK && !prefix.MayQbf(got) {
			t.Errorf("Close(%v) = %v, which is not valid", q, got)
		}
	}
}
