package prefix_test

import (
	"math"
	"slices"
	"testing"

	"skolem/api"
	"skolem/prefix"
)

// P3.3

func TestDqbf(t *testing.T) {
	q := api.Qbf{Prefix: []api.Block{all(3), some(2, 1), all(6, 5), some(4), all(7)}, Clauses: [][]int{{1, -3}, {}, {1, -3}}}
	want := api.Dqbf{Univ: []int{3, 5, 6, 7}, Exist: []api.Dep{{Var: 1, On: []int{3}}, {Var: 2, On: []int{3}}, {Var: 4, On: []int{3, 5, 6}}}, Clauses: q.Clauses}
	if got, e := prefix.Dqbf(q); !sameDqbf(got, want) || e != api.OK {
		t.Errorf("Dqbf(%v) = %v, %v", q, got, e)
	}
	for _, q := range []api.Qbf{
		{Prefix: []api.Block{some()}}, {Prefix: []api.Block{some(1), some(2)}}, {Prefix: []api.Block{some(1), all(1)}}, {Prefix: []api.Block{all(0)}}, {Prefix: []api.Block{all(variables(1, 1025)...)}},
		{Clauses: [][]int{{1}}}, {Prefix: example(), Clauses: [][]int{{1}, {6}}}, {Prefix: example(), Clauses: [][]int{{2, 1}}}, {Prefix: example(), Clauses: [][]int{{math.MinInt}}}, {Prefix: example(), Clauses: make([][]int, 20001)},
	} {
		if got, e := prefix.Dqbf(q); !sameDqbf(got, api.Dqbf{}) || e != api.ErrArg {
			t.Errorf("Dqbf(%v..) = %v, %v", q.Prefix, got, e)
		}
	}
	dice := dice(37)
	for range 10000 {
		n := dice.below(12)
		q := api.Qbf{Prefix: dice.prefix(n), Clauses: dice.clauses(3, variables(1, n))}
		if dice.below(8) == 0 {
			q.Prefix = dice.brokenPrefix(q.Prefix)
		}
		got, e := prefix.Dqbf(q)
		if want, f := naiveDqbf(q); !sameDqbf(got, want) || e != f {
			t.Errorf("Dqbf(%v) = %v, %v", q, got, e)
		}
	}
}

// TestDqbfAtTheLimit: 1024 blocks of one variable, from the last variable on.
func TestDqbfAtTheLimit(t *testing.T) {
	var q api.Qbf
	var want api.Dqbf
	for v := 1024; v >= 1; v-- {
		q.Prefix = append(q.Prefix, api.Block{Exists: v%2 == 1, Vars: []int{v}})
	}
	for v := 1; v <= 1024; v += 2 {
		want.Univ = append(want.Univ, v+1)
		dep := api.Dep{Var: v}
		for u := v + 1; u <= 1024; u += 2 {
			dep.On = append(dep.On, u)
		}
		want.Exist = append(want.Exist, dep)
	}
	got, e := prefix.Dqbf(q)
	if !sameDqbf(got, want) || e != api.OK {
		t.Errorf("Dqbf: %d universal ones, %d rows, %v", len(got.Univ), len(got.Exist), e)
	}
	if p, e := prefix.Linear(want); !samePrefix(p, q.Prefix) || e != api.OK {
		t.Errorf("Linear: %d blocks, %v", len(p), e)
	}
	want.Exist[256].On = want.Exist[256].On[:200]
	if p, e := prefix.Linear(want); len(p) != 0 || e != api.ErrLinear {
		t.Errorf("Linear without a chain: %d blocks, %v", len(p), e)
	}
}

func TestDeps(t *testing.T) {
	d := api.Dqbf{Univ: []int{1, 4}, Exist: []api.Dep{{Var: 5, On: []int{4, 1, 9}}, {Var: 2}, {Var: 3, On: []int{1}}, {Var: 5, On: []int{1}}, {Var: math.MinInt, On: []int{0}}, {Var: 2, On: []int{4}}}}
	for v, want := range map[int][]int{5: {4, 1, 9}, 2: nil, 3: {1}, math.MinInt: {0}} {
		if got, ok := prefix.Deps(d, v); !slices.Equal(got, want) || !ok {
			t.Errorf("Deps of %d: %v, %v", v, got, ok)
		}
	}
	for _, v := range []int{0, 1, 4, -5, 6, math.MaxInt} {
		if got, ok := prefix.Deps(d, v); len(got) != 0 || ok {
			t.Errorf("Deps of %d: %v, %v", v, got, ok)
		}
		if got, ok := prefix.Deps(api.Dqbf{}, v); len(got) != 0 || ok {
			t.Errorf("Deps of %d in nothing: %v, %v", v, got, ok)
		}
	}
	dice := dice(38)
	for range 2000 {
		d := dice.brokenDqbf(dice.dqbf(dice.below(8), false))
		for v := -1; v < 9; v++ {
			got, ok := prefix.Deps(d, v)
			if want, there := naiveDeps(d, v); !slices.Equal(got, want) || ok != there {
				t.Errorf("Deps(%v, %d) = %v, %v", d, v, got, ok)
			}
		}
	}
}

func TestLinear(t *testing.T) {
	row := func(v int, on ...int) api.Dep { return api.Dep{Var: v, On: on} }
	for name, c := range map[string]struct {
		d    api.Dqbf
		want []api.Block
		e    api.Errno
	}{
		"nothing":                {api.Dqbf{}, nil, api.OK},
		"no rows":                {api.Dqbf{Univ: []int{1, 3}}, []api.Block{all(1, 3)}, api.OK},
		"no universal variable":  {api.Dqbf{Exist: []api.Dep{row(2), row(7)}}, []api.Block{some(2, 7)}, api.OK},
		"the section's example":  {api.Dqbf{Univ: []int{1, 2, 4}, Exist: []api.Dep{row(3, 1, 2), row(5)}}, []api.Block{some(5), all(1, 2), some(3), all(4)}, api.OK},
		"the chapter's example":  {api.Dqbf{Univ: []int{1, 2}, Exist: []api.Dep{row(3, 1), row(4, 2)}}, nil, api.ErrLinear},
		"equal ones":             {api.Dqbf{Univ: []int{2, 5}, Exist: []api.Dep{row(1, 5), row(3, 2, 5), row(4, 5), row(6, 2, 5)}}, []api.Block{all(5), some(1, 4), all(2), some(3, 6)}, api.OK},
		"nothing left over":      {api.Dqbf{Univ: []int{1, 2}, Exist: []api.Dep{row(3, 1, 2), row(4, 2)}}, []api.Block{all(2), some(4), all(1), some(3)}, api.OK},
		"one length, the last":   {api.Dqbf{Univ: []int{1, 2, 6}, Exist: []api.Dep{row(3), row(4, 1, 2), row(5, 1, 6)}}, nil, api.ErrLinear},
		"one length, behind one": {api.Dqbf{Univ: []int{1, 2}, Exist: []api.Dep{row(3, 1), row(4, 1, 2), row(5, 2)}}, nil, api.ErrLinear},
		"two lengths":            {api.Dqbf{Univ: []int{1, 2, 6}, Exist: []api.Dep{row(3, 1), row(4, 2, 6)}}, nil, api.ErrLinear},
		"not valid":              {api.Dqbf{Univ: []int{2, 1}}, nil, api.ErrArg},
		"On that is no part":     {api.Dqbf{Univ: []int{1}, Exist: []api.Dep{row(3, 2)}}, nil, api.ErrArg},
		"both errors":            {api.Dqbf{Univ: []int{1, 2}, Exist: []api.Dep{row(3, 1), row(4, 2)}, Clauses: [][]int{{5}}}, nil, api.ErrArg},
		"1024 universal ones":    {api.Dqbf{Univ: variables(1, 1024)}, []api.Block{all(variables(1, 1024)...)}, api.OK},
		"1025 universal ones":    {api.Dqbf{Univ: variables(1, 1025)}, nil, api.ErrArg},
	} {
		if got, e := prefix.Linear(c.d); !samePrefix(got, c.want) || e != c.e {
			t.Errorf("Linear of %s: %v, %v", name, got, e)
		}
	}
}

// TestLinearOfAll holds Linear against the definition for all dependencies of three rows.
func TestLinearOfAll(t *testing.T) {
	univ := []int{2, 4, 6}
	ons := subsets(univ)
	for _, a := range ons {
		for _, b := range ons {
			for _, c := range ons {
				d := api.Dqbf{Univ: univ, Exist: []api.Dep{{Var: 1, On: a}, {Var: 3, On: b}, {Var: 7, On: c}}}
				got, e := prefix.Linear(d)
				if want, f := naiveLinear(d); !samePrefix(got, want) || e != f {
					t.Errorf("Linear(%v) = %v, %v", d, got, e)
				}
			}
		}
	}
}

func TestLinearOfAllSorts(t *testing.T) {
	dice := dice(39)
	count := map[api.Errno]int{}
	for i := range 20000 {
		d := dice.dqbf(dice.below(12), i%2 == 0)
		if dice.below(8) == 0 {
			d = dice.brokenDqbf(d)
		}
		got, e := prefix.Linear(d)
		if want, f := naiveLinear(d); !samePrefix(got, want) || e != f {
			t.Errorf("Linear(%v) = %v, %v", d, got, e)
		}
		count[e]++
	}
	if count[api.OK] < 2000 || count[api.ErrLinear] < 2000 || count[api.ErrArg] < 200 {
		t.Error("Linear:", count)
	}
}
