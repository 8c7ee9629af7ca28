package prefix_test

import (
	"math"
	"slices"
	"testing"

	"skolem/api"
	"skolem/prefix"
)

// P3.1: May, MayQbf, MayDqbf, Same, SameDqbf

func TestMay(t *testing.T) {
	for name, c := range map[string]struct {
		p    []api.Block
		want bool
	}{
		"nil":                          {nil, true},
		"no blocks":                    {[]api.Block{}, true},
		"one variable":                 {[]api.Block{some(1)}, true},
		"Vars that descend":            {[]api.Block{all(7, 3, 5)}, true},
		"MaxVar":                       {[]api.Block{all(65536), some(65535)}, true},
		"many blocks":                  {[]api.Block{some(5), all(1, 2), some(3), all(4)}, true},
		"an empty block":               {[]api.Block{some()}, false},
		"an empty block between":       {[]api.Block{some(1), all(), some(2)}, false},
		"an empty block last":          {[]api.Block{some(1), all()}, false},
		"neighbours of one quantifier": {[]api.Block{some(1), some(2)}, false},
		"universal neighbours":         {[]api.Block{some(3), all(1), all(2)}, false},
		"a variable twice in a block":  {[]api.Block{some(1, 2, 1)}, false},
		"a variable in two blocks":     {[]api.Block{some(1), all(2), some(1)}, false},
		"0":                            {[]api.Block{some(0)}, false},
		"a negative number":            {[]api.Block{some(-1)}, false},
		"beyond MaxVar":                {[]api.Block{some(1), all(65537)}, false},
		"the least int":                {[]api.Block{all(math.MinInt)}, false},
		"the greatest int":             {[]api.Block{all(math.MaxInt)}, false},
		"1024 variables":               {[]api.Block{some(variables(1, 1024)...)}, true},
		"1024 in two blocks":           {[]api.Block{some(variables(1, 1000)...), all(variables(65513, 65536)...)}, true},
		"1025 variables":               {[]api.Block{some(variables(1, 1025)...)}, false},
		"1025 in two blocks":           {[]api.Block{some(variables(1, 1000)...), all(variables(2000, 2024)...)}, false},
	} {
		if got := prefix.May(c.p); got != c.want {
			t.Errorf("May of %s: %v", name, got)
		}
	}
	for _, p := range prefixesOf(3, listsOf(2, 1, 2, 3)) {
		if got := prefix.May(p); got != naiveMay(p) {
			t.Errorf("May(%v) = %v", p, got)
		}
	}
	for _, p := range prefixesOf(2, listsOf(1, oddInts...)) {
		if got := prefix.May(p); got != naiveMay(p) {
			t.Errorf("May(%v) = %v", p, got)
		}
	}
}

// TestMayOfManyBlocks: as many blocks as there may be variables, and one more.
func TestMayOfManyBlocks(t *testing.T) {
	var p []api.Block
	for v := 1024; v >= 1; v-- {
		p = append(p, api.Block{Exists: v%2 == 0, Vars: []int{v}})
	}
	if !prefix.May(p) {
		t.Error("May of 1024 blocks")
	}
	if prefix.May(append(p, some(1025))) {
		t.Error("May of 1025 blocks")
	}
}

func TestMayQbf(t *testing.T) {
	p := []api.Block{some(1), all(2), some(65536)}
	for _, f := range [][][]int{nil, {}, {nil}, {{}, {}}, {{1, -2}, {-1}, {1, -2}}, {{-1, 2, -65536}}, slices.Repeat([][]int{{1}}, 20000), make([][]int, 20000)} {
		if !prefix.MayQbf(api.Qbf{Prefix: p, Clauses: f}) {
			t.Errorf("MayQbf with %d clauses, %v..", len(f), f[:min(3, len(f))])
		}
	}
	for _, f := range append(looseCnfs(), [][]int{{3}}, [][]int{{1}, {-1, 3}}, [][]int{{-3}}, [][]int{{65535}}) {
		if prefix.MayQbf(api.Qbf{Prefix: p, Clauses: f}) {
			t.Errorf("MayQbf with %d clauses, %v..", len(f), f[:min(3, len(f))])
		}
	}
	for _, bad := range [][]api.Block{{some()}, {some(1), some(2)}, {some(1, 1)}, {all(1), some(1)}, {some(0)}, {some(65537)}, {some(variables(1, 1025)...)}} {
		for _, f := range [][][]int{nil, {{1}}} {
			if prefix.MayQbf(api.Qbf{Prefix: bad, Clauses: f}) {
				t.Errorf("MayQbf(%v, %v)", bad, f)
			}
		}
	}
	if !prefix.MayQbf(api.Qbf{}) || !prefix.MayQbf(api.Qbf{Clauses: [][]int{{}}}) || prefix.MayQbf(api.Qbf{Clauses: [][]int{{1}}}) {
		t.Error("MayQbf without blocks")
	}
}

// TestMayQbfAtTheLimits: MaxLits literals of 1000 variables, and one more.
func TestMayQbfAtTheLimits(t *testing.T) {
	q := api.Qbf{Prefix: []api.Block{some(variables(1, 500)...), all(variables(501, 1000)...)}, Clauses: slices.Repeat([][]int{variables(1, 1000)}, 200)}
	d, _ := naiveDqbf(q)
	for more, want := range map[int]bool{0: true, 1: false} {
		f := append(slices.Clone(q.Clauses), make([]int, 0), variables(1, more))
		if got := prefix.MayQbf(api.Qbf{Prefix: q.Prefix, Clauses: f}); got != want {
			t.Errorf("MayQbf of %d literals too many: %v", more, got)
		}
		d.Clauses = f
		if got := prefix.MayDqbf(d); got != want {
			t.Errorf("MayDqbf of %d literals too many: %v", more, got)
		}
	}
}

func TestMayOfBrokenQbfs(t *testing.T) {
	dice := dice(31)
	valid := 0
	for range 20000 {
		n := dice.below(9)
		q := api.Qbf{Prefix: dice.prefix(n), Clauses: dice.clauses(3, variables(1, n))}
		if !prefix.MayQbf(q) {
			t.Errorf("MayQbf(%v) = false", q)
		}
		if dice.below(2) == 0 {
			q.Prefix = dice.brokenPrefix(q.Prefix)
		} else {
			q.Clauses = dice.broken(q.Clauses)
		}
		if got := prefix.MayQbf(q); got != naiveMayQbf(q) {
			t.Errorf("MayQbf(%v) = %v", q, got)
		}
		if naiveMayQbf(q) {
			valid++
		}
	}
	if valid < 1000 || valid > 19000 {
		t.Errorf("%d are valid", valid)
	}
}

func TestMayDqbf(t *testing.T) {
	univ := []int{1, 4, 65536}
	row := func(v int, on ...int) api.Dep { return api.Dep{Var: v, On: on} }
	for name, c := range map[string]struct {
		d    api.Dqbf
		want bool
	}{
		"nothing":               {api.Dqbf{}, true},
		"empty lists":           {api.Dqbf{Univ: []int{}, Exist: []api.Dep{}, Clauses: [][]int{{}}}, true},
		"no rows":               {api.Dqbf{Univ: univ, Clauses: [][]int{{-1, 65536}}}, true},
		"no universal variable": {api.Dqbf{Exist: []api.Dep{row(1), row(3)}, Clauses: [][]int{{1, -3}}}, true},
		"all sorts of On":       {api.Dqbf{Univ: univ, Exist: []api.Dep{row(2), row(3, 4), row(5, 1, 65536), row(6, univ...)}}, true},
		"Univ that descends":    {api.Dqbf{Univ: []int{4, 1}}, false},
		"Univ with one twice":   {api.Dqbf{Univ: []int{1, 1}}, false},
		"Univ with 0":           {api.Dqbf{Univ: []int{0, 1}}, false},
		"Univ below 0":          {api.Dqbf{Univ: []int{-1}}, false},
		"Univ beyond MaxVar":    {api.Dqbf{Univ: []int{65537}}, false},
		"rows that descend":     {api.Dqbf{Exist: []api.Dep{row(3), row(2)}}, false},
		"one row twice":         {api.Dqbf{Exist: []api.Dep{row(3), row(3)}}, false},
		"a row of 0":            {api.Dqbf{Exist: []api.Dep{row(0)}}, false},
		"a row below 0":         {api.Dqbf{Exist: []api.Dep{row(-5)}}, false},
		"a row beyond MaxVar":   {api.Dqbf{Exist: []api.Dep{row(65537)}}, false},
		"both":                  {api.Dqbf{Univ: univ, Exist: []api.Dep{row(2), row(4)}}, false},
		"On that is no part":    {api.Dqbf{Univ: univ, Exist: []api.Dep{row(3, 2)}}, false},
		"On of a row":           {api.Dqbf{Univ: univ, Exist: []api.Dep{row(2), row(3, 1, 2)}}, false},
		"On behind all":         {api.Dqbf{Univ: []int{1}, Exist: []api.Dep{row(3, 1, 2)}}, false},
		"On with one twice":     {api.Dqbf{Univ: univ, Exist: []api.Dep{row(3, 1, 1)}}, false},
		"On that descends":      {api.Dqbf{Univ: univ, Exist: []api.Dep{row(3, 4, 1)}}, false},
		"On with odd numbers":   {api.Dqbf{Univ: univ, Exist: []api.Dep{row(3, math.MinInt, 1)}}, false},
		"a clause of others":    {api.Dqbf{Univ: univ, Exist: []api.Dep{row(2)}, Clauses: [][]int{{1, 2}, {-3}}}, false},
		"a clause of none":      {api.Dqbf{Clauses: [][]int{{1}}}, false},
		"1024 universal ones":   {api.Dqbf{Univ: variables(1, 1024)}, true},
		"1025 universal ones":   {api.Dqbf{Univ: variables(1, 1025)}, false},
		"1024 in all":           {api.Dqbf{Univ: variables(1, 1023), Exist: []api.Dep{row(2000, variables(1, 1023)...)}}, true},
		"1025 in all":           {api.Dqbf{Univ: variables(1, 1024), Exist: []api.Dep{row(2000)}}, false},
	} {
		if got := prefix.MayDqbf(c.d); got != c.want {
			t.Errorf("MayDqbf of %s: %v", name, got)
		}
	}
	for _, f := range looseCnfs() {
		if prefix.MayDqbf(api.Dqbf{Univ: variables(1, 1000), Exist: []api.Dep{row(65535)}, Clauses: f}) {
			t.Errorf("MayDqbf with %d clauses, %v..", len(f), f[:min(3, len(f))])
		}
	}
}

func TestMayOfBrokenDqbfs(t *testing.T) {
	dice := dice(32)
	valid := 0
	for range 20000 {
		d := dice.dqbf(dice.below(9), false)
		if !prefix.MayDqbf(d) {
			t.Errorf("MayDqbf(%v) = false", d)
		}
		d = dice.brokenDqbf(d)
		if got := prefix.MayDqbf(d); got != naiveMayDqbf(d) {
			t.Errorf("MayDqbf(%v) = %v", d, got)
		}
		if naiveMayDqbf(d) {
			valid++
		}
	}
	if valid < 1000 || valid > 19000 {
		t.Errorf("%d are valid", valid)
	}
}

func TestSame(t *testing.T) {
	few := prefixesOf(2, [][]int{nil, {}, {0}, {1}, {-1}, {1, 2}, {2, 1}, {math.MinInt}})
	for _, a := range few {
		for _, b := range few {
			if got := prefix.Same(a, b); got != samePrefix(a, b) {
				t.Errorf("Same(%v, %v) = %v", a, b, got)
			}
		}
	}
	if !prefix.Same(nil, []api.Block{}) || !prefix.Same([]api.Block{{}}, []api.Block{{Vars: []int{}}}) || prefix.Same(nil, []api.Block{{}}) {
		t.Error("Same of nothing")
	}
}

func TestSameDqbf(t *testing.T) {
	var few []api.Dqbf
	for _, univ := range [][]int{nil, {}, {1}, {2}, {1, 2}} {
		for _, rows := range [][]api.Dep{nil, {}, {{}}, {{Var: 3}}, {{Var: 3, On: []int{1}}}, {{Var: -3, On: []int{1, 0}}}, {{Var: 3}, {Var: 3}}} {
			for _, f := range [][][]int{nil, {}, {nil}, {{}}, {{1}}, {{-1}}, {{1}, {}}, {{0, 5}}} {
				few = append(few, api.Dqbf{Univ: univ, Exist: rows, Clauses: f})
			}
		}
	}
	for _, a := range few {
		for _, b := range few {
			if got := prefix.SameDqbf(a, b); got != sameDqbf(a, b) {
				t.Errorf("SameDqbf(%v, %v) = %v", a, b, got)
			}
		}
	}
	if !prefix.SameDqbf(api.Dqbf{}, api.Dqbf{Univ: []int{}, Exist: []api.Dep{}, Clauses: [][]int{}}) {
		t.Error("SameDqbf of nothing")
	}
}
