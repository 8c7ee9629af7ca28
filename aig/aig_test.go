package aig_test

import (
	"math"
	"slices"
	"testing"

	"skolem/aig"
	"skolem/api"
)

// P6.1

func TestMay(t *testing.T) {
	for name, g := range map[string]api.Aig{
		"nothing":                  {},
		"empty lists":              {Ins: []int{}, Ands: [][2]int{}},
		"one input":                graph(ins(1)),
		"the greatest input":       graph(ins(65536)),
		"inputs with gaps":         graph(ins(1, 7, 65536)),
		"all inputs":               graph(variables(1, 65536)),
		"the constants":            graph(nil, pair(0, 1), pair(1, 0), pair(0, 0), pair(1, 1)),
		"Ands of Ands alone":       graph(nil, pair(0, 1), pair(2, 3), pair(5, 4)),
		"the edges of an input":    graph(ins(9), pair(2, 3), pair(3, 2)),
		"the greatest edges":       graph(ins(9), pair(3, 3), pair(5, 5), pair(7, 6)),
		"the same And twice":       graph(ins(1, 2), pair(2, 4), pair(2, 4), pair(4, 2)),
		"a graph that is reduced":  chain(100),
		"the chapter's":            example(),
		"200000 nodes":             chain(200000),
		"200000 without inputs":    graph(nil, make([][2]int, 199999)...),
		"200000 with all inputs":   graph(variables(1, 65536), make([][2]int, 134463)...),
		"the greatest edge of all": graph(ins(1, 2), append(chain(199999).Ands, pair(399997, 2))...),
	} {
		if !aig.May(g) {
			t.Errorf("%s is not valid", name)
		}
	}
	for name, g := range notGraphs() {
		if aig.May(g) {
			t.Errorf("%s is valid", name)
		}
	}
}

// TestMayOfOdd: each integer as an input, and as an edge.
func TestMayOfOdd(t *testing.T) {
	for _, x := range oddInts {
		for _, g := range []api.Aig{
			graph(ins(x)), graph(ins(1, x)), graph(ins(x, 65536)), graph(ins(1), pair(x, 1)), graph(ins(1), pair(1, x)),
			graph(variables(1, 65535), pair(x, x)), graph(variables(1, 65536), pair(0, 1), pair(x, 0)), graph(nil, append(make([][2]int, 199998), pair(x, 1))...),
		} {
			if got := aig.May(g); got != naiveMay(g) {
				t.Errorf("May = %v with %d, %d inputs and %d Ands", got, x, len(g.Ins), len(g.Ands))
			}
		}
	}
}

func TestMayOfAllSorts(t *testing.T) {
	dice := dice(90)
	count := map[[2]bool]int{}
	for i := range 60000 {
		g := dice.graph(4, 5)
		for range i % 3 {
			g = dice.broken(g)
		}
		may, reduced := aig.May(g), aig.Reduced(g)
		if may != naiveMay(g) || reduced != naiveReduced(g) || i%3 == 0 && !may {
			t.Errorf("May(%v) = %v, Reduced %v", g, may, reduced)
		}
		count[[2]bool{may, reduced}]++
		for range 3 {
			x := dice.number()
			if got := aig.Has(g, x); got != naiveHas(g, x) {
				t.Errorf("Has(%v, %d) = %v", g, x, got)
			}
		}
	}
	if count[[2]bool{true, true}] < 10000 || count[[2]bool{true, false}] < 10000 || count[[2]bool{false, false}] < 10000 {
		t.Error(count)
	}
}

func TestReduced(t *testing.T) {
	for name, c := range map[string]struct {
		g    api.Aig
		want bool
	}{
		"nothing":                      {api.Aig{}, true},
		"inputs alone":                 {graph(ins(3, 65536)), true},
		"the chapter's":                {example(), true},
		"the least edges":              {graph(ins(1, 2), pair(2, 4)), true},
		"opposites of others":          {graph(ins(1, 2), pair(2, 4), pair(2, 5), pair(3, 4), pair(3, 5)), true},
		"neighbours":                   {graph(ins(1, 2), pair(3, 4)), true},
		"an And of an And":             {graph(ins(1, 2), pair(2, 4), pair(2, 6), pair(2, 7)), true},
		"200000 nodes":                 {chain(200000), true},
		"an edge 0":                    {graph(ins(1), pair(0, 2)), false},
		"an edge 1":                    {graph(ins(1), pair(1, 2)), false},
		"both constants":               {graph(nil, pair(0, 1)), false},
		"an edge twice":                {graph(ins(1), pair(2, 2)), false},
		"an odd edge twice":            {graph(ins(1), pair(3, 3)), false},
		"an edge and its opposite":     {graph(ins(1), pair(2, 3)), false},
		"the opposite first":           {graph(ins(1), pair(3, 2)), false},
		"of an And, its opposite":      {graph(ins(1, 2), pair(2, 4), pair(6, 7)), false},
		"edges that descend":           {graph(ins(1, 2), pair(4, 2)), false},
		"a pair twice":                 {graph(ins(1, 2), pair(2, 4), pair(2, 4)), false},
		"a pair twice, and others":     {graph(ins(1, 2), pair(2, 4), pair(3, 5), pair(6, 9), pair(3, 5)), false},
		"equal values, another pair":   {graph(ins(1, 2), pair(2, 4), pair(2, 6)), true},
		"the last one is wrong":        {graph(ins(1, 2), append(chain(2000).Ands, pair(1, 2))...), false},
		"reduced, but with 200001":     {chain(200001), false},
		"an edge that is not there":    {graph(ins(1, 2), pair(2, 6)), false},
		"inputs that do not ascend":    {graph(ins(2, 1), pair(2, 4)), false},
		"an And of itself":             {graph(ins(1, 2), pair(2, 4), pair(6, 8)), false},
		"a negative edge":              {graph(ins(1, 2), pair(-4, 2)), false},
		"a pair twice, far away":       {graph(ins(1, 2), append(chain(20000).Ands, pair(2, 4))...), false},
		"an And of the one before, 10": {graph(ins(1), pair(3, 3), pair(2, 4)), false},
	} {
		if got := aig.Reduced(c.g); got != c.want {
			t.Errorf("Reduced of %s: %v", name, got)
		}
	}
	for name, g := range notGraphs() {
		if aig.Reduced(g) {
			t.Errorf("%s is reduced", name)
		}
	}
}

func TestHas(t *testing.T) {
	large := chain(200000)
	for _, c := range []struct {
		g    api.Aig
		edge int
		want bool
	}{
		{api.Aig{}, 0, true},
		{api.Aig{}, 1, true},
		{api.Aig{}, 2, false},
		{api.Aig{}, -1, false},
		{api.Aig{}, math.MinInt, false},
		{api.Aig{}, math.MaxInt, false},
		{graph(ins(65536)), 3, true},
		{graph(ins(65536)), 4, false},
		{graph(ins(65536)), 65536, false},
		{example(), 0, true},
		{example(), 1, true},
		{example(), 14, true},
		{example(), 15, true},
		{example(), 16, false},
		{example(), 17, false},
		{example(), -1, false},
		{example(), -2, false},
		{example(), math.MinInt, false},
		{example(), math.MaxInt, false},
		{large, 399998, true},
		{large, 399999, true},
		{large, 400000, false},
		{chain(200001), 2, false},
		{graph(nil, pair(0, 1)), 3, true},
		{graph(nil, pair(0, 1)), 4, false},
	} {
		if got := aig.Has(c.g, c.edge); got != c.want {
			t.Errorf("Has with %d nodes, %d: %v", nodesOf(c.g), c.edge, got)
		}
	}
	for name, g := range notGraphs() {
		if aig.Has(g, 0) || aig.Has(g, 2) {
			t.Errorf("Has of %s", name)
		}
	}
}

func TestSame(t *testing.T) {
	one := example()
	for name, c := range map[string]struct {
		a, b api.Aig
		want bool
	}{
		"nothing":              {api.Aig{}, api.Aig{}, true},
		"empty lists":          {api.Aig{Ins: []int{}, Ands: [][2]int{}}, api.Aig{}, true},
		"the chapter's":        {one, example(), true},
		"an input more":        {graph(ins(1)), graph(ins(1, 2)), false},
		"another input":        {graph(ins(1)), graph(ins(2)), false},
		"inputs that turn":     {graph(ins(1, 2)), graph(ins(2, 1)), false},
		"inputs alone":         {graph(ins(1)), api.Aig{}, false},
		"other inputs":         {one, graph(ins(1, 3), one.Ands...), false},
		"no inputs":            {one, graph(nil, one.Ands...), false},
		"an And less":          {one, graph(one.Ins, one.Ands[:4]...), false},
		"no Ands":              {one, graph(one.Ins), false},
		"Ands that turn":       {graph(ins(1), pair(0, 1), pair(2, 3)), graph(ins(1), pair(2, 3), pair(0, 1)), false},
		"edges that turn":      {graph(ins(1), pair(2, 3)), graph(ins(1), pair(3, 2)), false},
		"another first edge":   {graph(ins(1), pair(2, 3)), graph(ins(1), pair(1, 3)), false},
		"another second edge":  {graph(ins(1), pair(2, 3)), graph(ins(1), pair(2, 2)), false},
		"not valid, the same":  {graph(ins(0, -1), pair(-7, 99)), graph(ins(0, -1), pair(-7, 99)), true},
		"not valid, others":    {graph(ins(0, -1), pair(-7, 99)), graph(ins(0, -1), pair(-7, 98)), false},
		"not valid, inputs":    {graph(ins(0, -1)), graph(ins(0, -2)), false},
		"too large, the same":  {chain(200001), chain(200001), true},
		"too large, and other": {chain(200001), chain(200002), false},
	} {
		if got := aig.Same(c.a, c.b); got != c.want || aig.Same(c.b, c.a) != c.want {
			t.Errorf("Same of %s: %v", name, got)
		}
	}
	dice := dice(91)
	count := map[bool]int{}
	for range 20000 {
		a := dice.graph(4, 4)
		b := dice.broken(a)
		got := aig.Same(a, b)
		if got != sameGraphs(a, b) || !aig.Same(a, a) {
			t.Errorf("Same(%v, %v) = %v", a, b, got)
		}
		count[got]++
	}
	if count[true] < 1000 || count[false] < 10000 {
		t.Error(count)
	}
}

func TestEval(t *testing.T) {
	g := graph(ins(1, 4, 65536), pair(2, 4), pair(3, 7), pair(9, 11), pair(0, 6), pair(1, 6))
	for name, c := range map[string]struct {
		g    api.Aig
		edge int
		a    []int
		want bool
	}{
		"the constant false":             {api.Aig{}, 0, nil, false},
		"the constant true":              {api.Aig{}, 1, nil, true},
		"constants do not care":          {g, 1, ins(-1, -4, -65536), true},
		"nor does false":                 {g, 0, ins(1, 4, 65536), false},
		"an input that is true":          {g, 4, ins(1, 4), true},
		"its opposite":                   {g, 5, ins(1, 4), false},
		"an input that is false":         {g, 4, ins(1, -4), false},
		"the opposite of that":           {g, 5, ins(1, -4), true},
		"an input that is not said":      {g, 4, ins(1), false},
		"its opposite is true":           {g, 5, nil, true},
		"the greatest input":             {g, 6, ins(65536), true},
		"another variable":               {g, 4, ins(2, 3, 5), false},
		"others do not matter":           {g, 4, ins(-2, 4, 7), true},
		"an And of two that are true":    {g, 8, ins(1, 4), true},
		"its opposite is false":          {g, 9, ins(1, 4), false},
		"an And of one that is true":     {g, 8, ins(1), false},
		"of the other one":               {g, 8, ins(4), false},
		"of opposites, true":             {g, 10, ins(4), true},
		"of opposites, the first":        {g, 10, ins(1), false},
		"of opposites, the second":       {g, 10, ins(65536), false},
		"an And of Ands":                 {g, 12, ins(1, 65536), true},
		"of which one is true":           {g, 12, ins(-65536), false},
		"an And with false":              {g, 14, ins(65536), false},
		"an And with true":               {g, 16, ins(65536), true},
		"with true, the opposite":        {g, 17, ins(65536), false},
		"the chapter's exclusive or":     {example(), 15, ins(1), true},
		"the other one":                  {example(), 15, ins(-1, 2), true},
		"both":                           {example(), 15, ins(1, 2), false},
		"none":                           {example(), 15, nil, false},
		"an And of an edge twice":        {graph(ins(1), pair(3, 3)), 4, nil, true},
		"an And of opposites":            {graph(ins(1), pair(2, 3)), 5, ins(1), true},
		"an And of constants":            {graph(nil, pair(1, 1)), 2, nil, true},
		"variables behind all inputs":    {graph(ins(1)), 2, ins(1, 65536), true},
		"negative ones are not inputs":   {graph(ins(1, 2)), 2, ins(-1, 2), false},
		"a node's number is no matter":   {graph(ins(3, 5)), 2, ins(1, 2, 4, 6), false},
		"the greatest edge at the end":   {g, 17, ins(1, 4), true},
		"an And that is not reached yet": {g, 8, ins(1, 4, 65536), true},
	} {
		if got, e := aig.Eval(c.g, c.edge, c.a); got != c.want || e != api.OK {
			t.Errorf("Eval of %s: %v, %v", name, got, e)
		}
	}
}

func TestEvalOfWrong(t *testing.T) {
	refused := func(name string, g api.Aig, edge int, a []int) {
		if got, e := aig.Eval(g, edge, a); got || e != api.ErrArg {
			t.Errorf("Eval of %s, %d by %v: %v, %v", name, edge, a, got, e)
		}
	}
	for name, g := range notGraphs() {
		refused(name, g, 1, nil)
		refused(name, g, 0, nil)
	}
	for _, a := range loose {
		refused("the chapter's", example(), 1, a)
		refused("nothing", api.Aig{}, 1, a)
	}
	for _, x := range []int{16, 17, -1, -2, math.MinInt, math.MaxInt} {
		refused("the chapter's", example(), x, ins(1))
	}
	refused("nothing", api.Aig{}, 2, nil)
}

func TestEvalOfAllSorts(t *testing.T) {
	dice := dice(92)
	count := map[bool]int{}
	for range 3000 {
		g := dice.graph(5, 9)
		edge := dice.edge(nodesOf(g))
		some := [][]int{nil, dice.assignment(variables(1, 12)), dice.assignment(variables(65530, 65536))}
		for _, a := range append(assignmentsOf(g.Ins), some...) {
			got, e := aig.Eval(g, edge, a)
			if got != naiveValue(g, edge, a) || e != api.OK {
				t.Fatalf("Eval(%v, %d, %v) = %v, %v", g, edge, a, got, e)
			}
			count[got]++
		}
	}
	if count[true] < 5000 || count[false] < 5000 {
		t.Error(count)
	}
}

func TestTable(t *testing.T) {
	and := graph(ins(1, 2), pair(2, 4))
	g := graph(ins(1, 3, 65536), pair(2, 5), pair(7, 9))
	for name, c := range map[string]struct {
		g    api.Aig
		edge int
		vars []int
		want []bool
	}{
		"the section's example":     {and, 6, ins(1, 2), []bool{false, false, false, true}},
		"its opposite":              {and, 7, ins(1, 2), []bool{true, true, true, false}},
		"false, no variables":       {api.Aig{}, 0, nil, []bool{false}},
		"true, no variables":        {api.Aig{}, 1, []int{}, []bool{true}},
		"an And, no variables":      {and, 6, nil, []bool{false}},
		"true, of one variable":     {api.Aig{}, 1, ins(9), []bool{true, true}},
		"of one input":              {and, 6, ins(2), []bool{false, false}},
		"the opposite of an input":  {and, 3, ins(1), []bool{true, false}},
		"of the other input":        {and, 3, ins(2), []bool{true, true}},
		"one that is no input":      {and, 2, ins(65536, 1), []bool{false, false, true, true}},
		"that is no input, behind":  {and, 2, ins(1, 3), []bool{false, true, false, true}},
		"the first one is fastest":  {g, 8, ins(1, 3), []bool{false, true, false, false}},
		"in the other order":        {g, 8, ins(3, 1), []bool{false, false, true, false}},
		"three, in any order":       {g, 10, ins(65536, 1, 3), []bool{true, false, false, false, true, false, true, false}},
		"others are false":          {g, 10, ins(3), []bool{true, true}},
		"the opposite with three":   {g, 11, ins(1, 3, 65536), []bool{false, true, false, false, true, true, true, true}},
		"an And of edges twice":     {graph(ins(2), pair(2, 2)), 4, ins(2), []bool{false, true}},
		"constants in an And":       {graph(ins(2), pair(1, 3)), 4, ins(2), []bool{true, false}},
		"a node's number is no one": {graph(ins(5)), 2, ins(1, 5), []bool{false, false, true, true}},
	} {
		if got, e := aig.Table(c.g, c.edge, c.vars); !slices.Equal(got, c.want) || e != api.OK {
			t.Errorf("Table of %s: %v, %v", name, got, e)
		}
	}
}

func TestTableOfWrong(t *testing.T) {
	refused := func(name string, g api.Aig, edge int, vars []int, want api.Errno) {
		if got, e := aig.Table(g, edge, vars); got != nil || e != want {
			t.Errorf("Table of %s: %d values, %v", name, len(got), e)
		}
	}
	g := example()
	for name, vars := range map[string][]int{
		"0":                          {0},
		"-1":                         {1, -1},
		"-2":                         {-2},
		"65537":                      {1, 65537},
		"the least int":              {math.MinInt},
		"the greatest int":           {math.MaxInt},
		"a variable twice":           {1, 1},
		"no input twice":             {7, 1, 7},
		"17, one of them twice":      append(variables(1, 16), 1),
		"17 with 0":                  append(variables(1, 16), 0),
		"17 with 65537":              append(variables(1, 16), 65537),
		"the last of many is twice":  append(variables(1, 1000), 3),
		"65537 behind all variables": variables(1, 65537),
	} {
		refused(name, g, 2, vars, api.ErrArg)
	}
	for _, edge := range []int{16, 17, -1, math.MinInt, math.MaxInt} {
		refused("an edge that is not there", g, edge, ins(1), api.ErrArg)
		refused("an edge that is not there, of 17", g, edge, variables(1, 17), api.ErrArg)
	}
	for name, not := range notGraphs() {
		refused(name, not, 0, nil, api.ErrArg)
		refused(name+", of 17", not, 0, variables(1, 17), api.ErrArg)
	}
	refused("17", g, 2, variables(1, 17), api.ErrLong)
	refused("17 that are no inputs", g, 2, variables(65520, 65536), api.ErrLong)
	refused("all", g, 2, variables(1, 65536), api.ErrLong)
}

// TestTableOfMany: 16 variables, 5 to 8 of them, and a large graph.
func TestTableOfMany(t *testing.T) {
	g := graph(variables(1, 16), pair(2, 4))
	for n := 3; n <= 16; n++ {
		g.Ands = append(g.Ands, pair(2*n, 2*nodesOf(g)-2-n%2))
	}
	edge := 2*nodesOf(g) - 1
	for _, vars := range [][]int{variables(1, 16), variables(5, 20), variables(12, 16), ins(1, 2, 3, 4, 5), ins(6, 5, 4, 3, 2, 1), ins(3, 4, 5, 6, 7, 8, 9), ins(16, 2, 14, 4, 12, 6, 10, 8), mixed(new(dice), variables(1, 16))} {
		got, e := aig.Table(g, edge, vars)
		if !slices.Equal(got, naiveTable(g, edge, vars)) || e != api.OK {
			t.Errorf("Table of %v: %d values, %v", vars, len(got), e)
		}
	}
	g = chain(200000)
	got, e := aig.Table(g, 399999, append(variables(3, 16), 2, 1))
	if len(got) != 65536 || e != api.OK {
		t.Fatalf("%d values, %v", len(got), e)
	}
	for i, is := range got {
		if i%997 > 0 {
			continue
		}
		if want, e := aig.Eval(g, 399999, assignmentOf(ins(1, 2), i>>15%2+i>>14%2*2)); is != want || e != api.OK {
			t.Errorf("value %d is %v", i, is)
		}
	}
}

func TestTableOfAllSorts(t *testing.T) {
	dice := dice(93)
	for range 3000 {
		g := dice.graph(6, 9)
		edge := dice.edge(nodesOf(g))
		vars := mixed(&dice, dice.part(append(slices.Clone(g.Ins), 7, 65530))) // of which two are no inputs
		if got, e := aig.Table(g, edge, vars); !slices.Equal(got, naiveTable(g, edge, vars)) || e != api.OK {
			t.Errorf("Table(%v, %d, %v) = %v, %v", g, edge, vars, got, e)
		}
	}
}

func TestSupportAndSize(t *testing.T) {
	g := graph(ins(2, 5, 9, 65536), pair(4, 8), pair(2, 3), pair(10, 1), pair(15, 12), pair(10, 6), pair(0, 1))
	for name, c := range map[string]struct {
		g    api.Aig
		edge int
		want []int
		size int
	}{
		"false":                       {g, 0, nil, 0},
		"true":                        {g, 1, nil, 0},
		"false of nothing":            {api.Aig{}, 0, nil, 0},
		"an input":                    {g, 4, ins(5), 0},
		"its opposite":                {g, 5, ins(5), 0},
		"the greatest input":          {g, 9, ins(65536), 0},
		"an And":                      {g, 10, ins(5, 65536), 1},
		"its opposite, too":           {g, 11, ins(5, 65536), 1},
		"an And that is always false": {g, 12, ins(2), 1},
		"an And of an And, and 1":     {g, 14, ins(5, 65536), 2},
		"an And of Ands":              {g, 17, ins(2, 5, 65536), 4},
		"behind others":               {g, 18, ins(5, 9, 65536), 2},
		"an And of constants":         {g, 20, nil, 1},
		"the chapter's":               {example(), 15, ins(1, 2), 3},
	} {
		if got, e := aig.Support(c.g, c.edge); !slices.Equal(got, c.want) || e != api.OK {
			t.Errorf("Support of %s: %v, %v", name, got, e)
		}
		if got, e := aig.Size(c.g, []int{c.edge}); got != c.size || e != api.OK {
			t.Errorf("Size of %s: %v, %v", name, got, e)
		}
	}
	for _, c := range []struct {
		edges []int
		size  int
	}{
		{nil, 0}, {ins(0, 1, 2, 9), 0}, {ins(10, 10, 11), 1}, {ins(10, 12), 2}, {ins(12, 14), 3}, {ins(17, 18), 5}, {ins(18, 17), 5}, {ins(20, 19, 16), 6}, {variables(0, 21), 6},
	} {
		if got, e := aig.Size(g, c.edges); got != c.size || e != api.OK {
			t.Errorf("Size of %v: %v, %v", c.edges, got, e)
		}
	}
}

func TestSupportAndSizeOfWrong(t *testing.T) {
	refused := func(name string, g api.Aig, edge int) {
		if got, e := aig.Support(g, edge); got != nil || e != api.ErrArg {
			t.Errorf("Support of %s, %d: %v, %v", name, edge, got, e)
		}
		for _, l := range [][]int{{edge}, {0, edge}, {edge, 1}, {0, 1, edge, edge, 0}} {
			if got, e := aig.Size(g, l); got != 0 || e != api.ErrArg {
				t.Errorf("Size of %s, %v: %v, %v", name, l, got, e)
			}
		}
	}
	for name, g := range notGraphs() {
		refused(name, g, 0)
		if got, e := aig.Size(g, nil); got != 0 || e != api.ErrArg {
			t.Errorf("Size of %s, no edges: %v, %v", name, got, e)
		}
	}
	for _, x := range []int{16, 17, -1, -2, math.MinInt, math.MaxInt} {
		refused("the chapter's", example(), x)
	}
	refused("nothing", api.Aig{}, 2)
}

func TestSupportAndSizeOfAllSorts(t *testing.T) {
	dice := dice(94)
	for range 5000 {
		g := dice.graph(6, 9)
		for x := range 2 * nodesOf(g) {
			if got, e := aig.Support(g, x); !slices.Equal(got, naiveSupport(g, x)) || e != api.OK {
				t.Errorf("Support(%v, %d) = %v, %v", g, x, got, e)
			}
		}
		l := dice.edges(g, 4)
		if got, e := aig.Size(g, l); got != naiveSize(g, l) || e != api.OK {
			t.Errorf("Size(%v, %v) = %v, %v", g, l, got, e)
		}
	}
}

// TestLarge: graphs at the limits are gone through without recursion, and soon.
func TestLarge(t *testing.T) {
	g := graph(ins(1, 2), pair(2, 4))
	for n := 4; n < 200000; n++ {
		g.Ands = append(g.Ands, pair(2*n-2, 2*n-1-n%2))
	}
	if got, e := aig.Eval(g, 399999, ins(1, 2)); !got || e != api.OK {
		t.Errorf("Eval: %v, %v", got, e)
	}
	if got, e := aig.Support(g, 399999); !slices.Equal(got, ins(1, 2)) || e != api.OK {
		t.Errorf("Support: %v, %v", got, e)
	}
	if got, e := aig.Size(g, ins(399998, 8)); got != 199997 || e != api.OK {
		t.Errorf("Size: %v, %v", got, e)
	}
}
