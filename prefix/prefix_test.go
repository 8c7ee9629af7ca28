package prefix_test

import (
	"math"
	"slices"
	"testing"

	"skolem/api"
	"skolem/prefix"
)

// P3.1: Find, Vars, On, Last, Reduce

// example is the prefix of the chapter's examples.
func example() []api.Block {
	return []api.Block{some(5), all(1, 2), some(3), all(4)}
}

// anyPrefixes are lists of blocks, of which most are not valid.
func anyPrefixes() [][]api.Block {
	return slices.Concat(prefixesOf(3, [][]int{nil, {1}, {2}, {1, 2}, {3, 1}, {2, 2}}), prefixesOf(2, listsOf(1, oddInts...)), prefixesOf(1, listsOf(2, oddInts...)))
}

func TestFind(t *testing.T) {
	for _, p := range anyPrefixes() {
		for _, v := range append([]int{3, 4}, oddInts...) {
			i, exists, ok := prefix.Find(p, v)
			if j, want, there := naiveFind(p, v); i != j || exists != want || ok != there {
				t.Errorf("Find(%v, %d) = %d, %v, %v", p, v, i, exists, ok)
			}
		}
	}
	for v, want := range map[int]int{5: 0, 1: 1, 2: 1, 3: 2, 4: 3} {
		if i, exists, ok := prefix.Find(example(), v); i != want || exists != (want%2 == 0) || !ok {
			t.Errorf("Find of %d: %d, %v, %v", v, i, exists, ok)
		}
	}
	for _, v := range []int{0, -1, 6, math.MinInt} {
		if i, exists, ok := prefix.Find(example(), v); i != 0 || exists || ok {
			t.Errorf("Find of %d: %d, %v, %v", v, i, exists, ok)
		}
	}
	if i, exists, ok := prefix.Find([]api.Block{all(), all(7), some(8, 7)}, 7); i != 1 || exists || !ok {
		t.Errorf("Find of a number in two blocks: %d, %v, %v", i, exists, ok)
	}
}

func TestVars(t *testing.T) {
	for _, p := range anyPrefixes() {
		if got := prefix.Vars(p); !slices.Equal(got, slices.Compact(sorted(numbersOf(p)))) {
			t.Errorf("Vars(%v) = %v", p, got)
		}
	}
	for _, c := range []struct {
		p    []api.Block
		want []int
	}{
		{nil, nil}, {[]api.Block{}, nil}, {[]api.Block{some(), all()}, nil},
		{example(), []int{1, 2, 3, 4, 5}},
		{[]api.Block{all(7, 7), all(7, -7), some(0, 70000)}, []int{-7, 0, 7, 70000}},
		{[]api.Block{some(math.MaxInt), some(math.MinInt)}, []int{math.MinInt, math.MaxInt}},
	} {
		if got := prefix.Vars(c.p); !slices.Equal(got, c.want) {
			t.Errorf("Vars(%v) = %v", c.p, got)
		}
	}
}

func TestOn(t *testing.T) {
	for v, want := range map[int][]int{5: nil, 1: {5}, 2: {5}, 3: {1, 2}, 4: {3, 5}} {
		if got, e := prefix.On(example(), v); !slices.Equal(got, want) || e != api.OK {
			t.Errorf("On of %d: %v, %v", v, got, e)
		}
	}
	for _, v := range []int{0, -5, 6, 65537, math.MinInt, math.MaxInt} {
		for _, p := range [][]api.Block{nil, example()} {
			if got, e := prefix.On(p, v); len(got) != 0 || e != api.ErrNone {
				t.Errorf("On(%v, %d) = %v, %v", p, v, got, e)
			}
		}
	}
	for _, p := range anyPrefixes() {
		for _, v := range []int{-1, 0, 1, 2, 3, 9} {
			got, e := prefix.On(p, v)
			if want, f := naiveOn(p, v); !slices.Equal(got, want) || e != f {
				t.Errorf("On(%v, %d) = %v, %v", p, v, got, e)
			}
		}
	}
	dice := dice(33)
	for range 500 {
		p := dice.prefix(dice.below(20))
		for v := range 21 {
			got, e := prefix.On(p, v)
			if want, f := naiveOn(p, v); !slices.Equal(got, want) || e != f {
				t.Errorf("On(%v, %d) = %v, %v", p, v, got, e)
			}
		}
	}
}

func TestOnAtTheLimit(t *testing.T) {
	down := variables(2, 1024)
	slices.Reverse(down)
	if got, e := prefix.On([]api.Block{all(down...), some(1)}, 1); !slices.Equal(got, variables(2, 1024)) || e != api.OK {
		t.Errorf("On with 1024 variables: %d, %v", len(got), e)
	}
	if got, e := prefix.On([]api.Block{all(down...), some(1, 1025)}, 1); len(got) != 0 || e != api.ErrArg {
		t.Errorf("On with 1025 variables: %d, %v", len(got), e)
	}
}

// holdReduce holds Last and Reduce against the definition.
func holdReduce(t *testing.T, p []api.Block, l []int) {
	for _, exists := range []bool{false, true} {
		if got := prefix.Last(p, l, exists); got != naiveLast(p, l, exists) {
			t.Errorf("Last(%v, %v, %v) = %d", p, l, exists, got)
		}
		if got := prefix.Reduce(p, l, exists); !slices.Equal(got, naiveReduce(p, l, exists)) {
			t.Errorf("Reduce(%v, %v, %v) = %v", p, l, exists, got)
		}
	}
}

func TestLast(t *testing.T) {
	twice := []api.Block{some(1), all(2, 3), some(2, 1), some(4), all(4, -6, math.MinInt), some(0)}
	for _, c := range []struct {
		p           []api.Block
		l           []int
		exist, univ int
	}{
		{nil, nil, -1, -1}, {nil, []int{1, -2}, -1, -1}, {example(), nil, -1, -1},
		{example(), []int{5, 4}, 0, 3}, {example(), []int{-3, 1, 5}, 2, 1}, {example(), []int{-4, -3, 9}, 2, 3}, {example(), []int{-3, 5, 9}, 2, -1}, {example(), []int{2, -2}, -1, 1},
		{example(), []int{9, 0, math.MinInt, math.MaxInt}, -1, -1},
		{twice, []int{2}, -1, 1}, {twice, []int{-1}, 0, -1}, {twice, []int{4, 4}, 3, -1}, {twice, []int{1, 3}, 0, 1},
		{twice, []int{6, -6}, -1, -1}, {twice, []int{math.MinInt}, -1, -1}, {twice, []int{0}, 5, -1},
	} {
		if x, u := prefix.Last(c.p, c.l, true), prefix.Last(c.p, c.l, false); x != c.exist || u != c.univ {
			t.Errorf("Last(%v, %v): %d, %d", c.p, c.l, x, u)
		}
	}
}

func TestReduce(t *testing.T) {
	for _, c := range []struct {
		l, clause, cube []int
	}{
		{nil, nil, nil},
		{[]int{1, 3, -4}, []int{1, 3}, []int{1, 3, -4}},
		{[]int{1, 2}, nil, []int{1, 2}},
		{[]int{3, 5}, []int{3, 5}, nil},
		{[]int{1, -4}, nil, []int{1, -4}},
		{[]int{-2, 5}, []int{5}, []int{-2, 5}},
		{[]int{-2, 3, 5}, []int{-2, 3, 5}, []int{-2, 5}},
		{[]int{3, 4, 9}, []int{3, 9}, []int{3, 4, 9}},
		{[]int{9, -9, 4}, []int{9, -9}, []int{9, -9, 4}},
		{[]int{4, 0, 3, math.MinInt, -1, 3, 65537, -4}, []int{0, 3, math.MinInt, -1, 3, 65537}, []int{4, 0, 3, math.MinInt, -1, 3, 65537, -4}},
		{[]int{5, 3, -5, 1}, []int{5, 3, -5, 1}, []int{5, -5, 1}},
	} {
		if a, b := prefix.Reduce(example(), c.l, false), prefix.Reduce(example(), c.l, true); !slices.Equal(a, c.clause) || !slices.Equal(b, c.cube) {
			t.Errorf("Reduce of %v: %v, %v", c.l, a, b)
		}
	}
}

// TestReduceByTheFirstBlock: the block of a variable is the first one that has it, whatever stands in later ones.
func TestReduceByTheFirstBlock(t *testing.T) {
	p := []api.Block{some(3), all(2), some(1), all(1)}
	if got := prefix.Reduce(p, []int{1, 2, 3}, false); !slices.Equal(got, []int{1, 2, 3}) {
		t.Error("Reduce of a clause:", got)
	}
	p = []api.Block{all(3), some(2), all(1), some(1)}
	if got := prefix.Reduce(p, []int{1, 2, 3}, true); !slices.Equal(got, []int{1, 2, 3}) {
		t.Error("Reduce of a cube:", got)
	}
}

func TestLastAndReduceOfAllSorts(t *testing.T) {
	lists := append(listsOf(2, -2, -1, 0, 1, 2, 3), []int{math.MinInt, 1}, []int{65536, -65537}, []int{math.MaxInt}, []int{3, 2, 1, -1})
	for _, p := range anyPrefixes() {
		for _, l := range lists {
			holdReduce(t, p, l)
		}
	}
	dice := dice(34)
	for range 5000 {
		p := dice.prefix(dice.below(12))
		if dice.below(2) == 0 {
			p = dice.brokenPrefix(dice.brokenPrefix(p))
		}
		for range 4 {
			var l []int
			for range dice.below(8) {
				l = append(l, dice.number()*(1-2*dice.below(2)))
			}
			holdReduce(t, p, l)
		}
	}
}

func TestReduceOfLongLists(t *testing.T) {
	p := []api.Block{some(variables(1, 500)...), all(variables(501, 1000)...), some(1001), all(variables(1002, 1024)...)}
	l := slices.Repeat(variables(-1024, 1024), 100)
	want := slices.Repeat(variables(-1001, 1001), 100)
	if got := prefix.Reduce(p, l, false); !slices.Equal(got, want) {
		t.Errorf("Reduce: %d literals", len(got))
	}
	if x, u := prefix.Last(p, l, true), prefix.Last(p, l, false); x != 2 || u != 3 {
		t.Errorf("Last: %d, %d", x, u)
	}
	if got := prefix.Reduce([]api.Block{some(variables(1, 300000)...), all(variables(300001, 600000)...)}, variables(-600000, 600000), false); !slices.Equal(got, variables(-300000, 300000)) {
		t.Errorf("Reduce with blocks that are too long: %d literals", len(got))
	}
}
