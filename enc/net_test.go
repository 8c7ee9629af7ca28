package enc_test

import (
	"math"
	"slices"
	"testing"

	"skolem/api"
	"skolem/enc"
)

// P12.1: Net and Half

// function is Net or Half.
type function struct {
	name string
	call func(n api.Net) (api.Qbf, api.Errno)
	half bool
}

func both() []function { return []function{{"Net", enc.Net, false}, {"Half", enc.Half, true}} }

// written holds Net and Half against the definition.
func written(t *testing.T, n api.Net) {
	t.Helper()
	for _, fn := range both() {
		got, e := fn.call(n)
		if want, err := naiveFormula(n, fn.half); !sameQbf(got, want) || e != err {
			t.Errorf("%s(%v) = %v, %v, not %v, %v", fn.name, n, got, e, want, err)
		}
	}
}

// returns holds a function against what it must return.
func (fn function) returns(t *testing.T, name string, n api.Net, p []api.Block, f [][]int) {
	t.Helper()
	if q, e := fn.call(n); !sameQbf(q, api.Qbf{Prefix: p, Clauses: f}) || e != api.OK {
		t.Errorf("%s of %s: %v, %v, not %v, %v", fn.name, name, q, e, p, f)
	}
}

func TestNet(t *testing.T) {
	ex, un := blocks(some(2, 1)), blocks(all(2, 1))
	whole := enc.Net
	for name, c := range map[string]struct {
		n api.Net
		p []api.Block
		f [][]int
	}{
		"the chapter's example":          {net(blocks(some(1)), -2, or(2, 1)), blocks(some(1, 2)), clauses(list(1, -2), list(-1, 2), list(-2))},
		"no gates":                       {net(ex, 1), ex, clauses(list(1))},
		"no gates, a negative Out":       {net(un, -2), un, clauses(list(-2))},
		"no gates, blocks":               {net(blocks(some(3), all(1), some(2)), -1), blocks(some(3), all(1), some(2)), clauses(list(-1))},
		"no blocks":                      {net(nil, 7, and(7)), blocks(some(7)), clauses(list(7), list(7))},
		"no blocks, a negative Out":      {net(nil, -7, or(9), and(7, 9)), blocks(some(9, 7)), clauses(list(-9), list(-7, 9), list(7, -9), list(-7))},
		"a last block that exists":       {net(blocks(all(1), some(5, 2)), 3, and(4, 1), or(3, 4, 2)), blocks(all(1), some(5, 2, 4, 3)), clauses(list(1, -4), list(-1, 4), list(2, -3, 4), list(3, -4), list(-2, 3), list(3))},
		"a last block that is for all":   {net(blocks(some(1), all(5, 2)), 3, and(4, 1), or(3, 4, 2)), blocks(some(1), all(5, 2), some(4, 3)), clauses(list(1, -4), list(-1, 4), list(2, -3, 4), list(3, -4), list(-2, 3), list(3))},
		"one block that is for all":      {net(un, 3, xor(3, 2, 1)), blocks(all(2, 1), some(3)), clauses(list(1, 2, -3), list(-1, -2, -3), list(1, -2, 3), list(-1, 2, 3), list(3))},
		"Out is a variable":              {net(ex, -1, and(3, 2)), blocks(some(2, 1, 3)), clauses(list(2, -3), list(-2, 3), list(-1))},
		"Out is an inner gate":           {net(ex, 3, and(3, 2), or(4, -3)), blocks(some(2, 1, 3, 4)), clauses(list(2, -3), list(-2, 3), list(-3, -4), list(3, 4), list(3))},
		"gates that do not occur":        {net(ex, 4, and(3, 2), and(4)), blocks(some(2, 1, 3, 4)), clauses(list(2, -3), list(-2, 3), list(4), list(4))},
		"a gate of each kind":            {net(ex, 6, and(3, 2, -1), or(4, 3, 1), xor(5, 4, 3), ite(6, 5, 4, -3)), blocks(some(2, 1, 3, 4, 5, 6)), clauses(list(2, -3), list(-1, -3), list(1, -2, 3), list(1, 3, -4), list(-3, 4), list(-1, 4), list(3, 4, -5), list(-3, -4, -5), list(3, -4, 5), list(-3, 4, 5), list(4, -5, -6), list(-3, 5, -6), list(-4, -5, 6), list(3, 5, 6), list(6))},
		"clauses that are left out":      {net(ex, 5, and(3, 1, -1), or(4, 1, -1), xor(5, 1, 1)), blocks(some(2, 1, 3, 4, 5)), clauses(list(1, -3), list(-1, -3), list(-1, 4), list(1, 4), list(1, -5), list(-1, -5), list(5))},
		"Vars that do not ascend":        {net(blocks(some(65536)), 1, or(9, 65536), or(1, 9)), blocks(some(65536, 9, 1)), clauses(list(-9, 65536), list(9, -65536), list(-1, 9), list(1, -9), list(1))},
		"the same gate twice, but Var":   {net(ex, 4, and(3, 1), and(4, 1)), blocks(some(2, 1, 3, 4)), clauses(list(1, -3), list(-1, 3), list(1, -4), list(-1, 4), list(4))},
		"a literal twice in a gate":      {net(ex, 3, and(3, 1, 1)), blocks(some(2, 1, 3)), clauses(list(1, -3), list(1, -3), list(-1, 3), list(3))},
		"the empty and, the empty or":    {net(ex, 3, or(4), and(3)), blocks(some(2, 1, 4, 3)), clauses(list(-4), list(3), list(3))},
		"1024 variables without a gate":  {net(blocks(all(variables(1, 1024)...)), 1024), blocks(all(variables(1, 1024)...)), clauses(list(1024))},
		"an and that is another's input": {net(nil, 2, and(1), and(2, 1, 1)), blocks(some(1, 2)), clauses(list(1), list(1, -2), list(1, -2), list(-1, 2), list(2))},
	} {
		function{"Net", whole, false}.returns(t, name, c.n, c.p, c.f)
		written(t, c.n)
	}
}

func TestHalf(t *testing.T) {
	ex := blocks(some(1, 2))
	half := both()[1]
	for name, c := range map[string]struct {
		n    api.Net
		vars []int // of the gates that occur
		f    [][]int
	}{
		"the chapter's example of Net":                 {net(ex, -3, or(3, 1)), list(3), clauses(list(-1, 3), list(-3))},
		"the chapter's example of Half":                {net(ex, 4, and(3, 1, 2), or(4, 3, 1)), list(3, 4), clauses(list(1, -3), list(2, -3), list(1, 3, -4), list(4))},
		"no gates":                                     {net(ex, 1), nil, clauses(list(1))},
		"no gates, a negative Out":                     {net(ex, -2), nil, clauses(list(-2))},
		"Out is a variable":                            {net(ex, 2, and(3, 1), or(4, 3)), nil, clauses(list(2))},
		"Out is a negative variable":                   {net(ex, -2, and(3, 2)), nil, clauses(list(-2))},
		"Out is an inner gate":                         {net(ex, 3, and(3, 1), or(4, 3, 2), and(5, -3)), list(3), clauses(list(1, -3), list(3))},
		"Out is an inner gate, negative":               {net(ex, -3, and(3, 1), or(4, 3, 2), and(5, -3)), list(3), clauses(list(-1, 3), list(-3))},
		"gates that do not occur":                      {net(ex, 5, and(3, 1), or(4, 2), and(5, 4), xor(6, 3, 5)), list(4, 5), clauses(list(2, -4), list(4, -5), list(5))},
		"an and, positive":                             {net(ex, 3, and(3, 1, -2)), list(3), clauses(list(1, -3), list(-2, -3), list(3))},
		"an and, negative":                             {net(ex, -3, and(3, 1, -2)), list(3), clauses(list(-1, 2, 3), list(-3))},
		"an or, positive":                              {net(ex, 3, or(3, 1, -2)), list(3), clauses(list(1, -2, -3), list(3))},
		"an or, negative":                              {net(ex, -3, or(3, 1, -2)), list(3), clauses(list(-1, 3), list(2, 3), list(-3))},
		"a xor, positive":                              {net(ex, 3, xor(3, 1, -2)), list(3), clauses(list(1, -2, -3), list(-1, 2, -3), list(3))},
		"a xor, negative":                              {net(ex, -3, xor(3, 1, -2)), list(3), clauses(list(-1, -2, 3), list(1, 2, 3), list(-3))},
		"an ite, positive":                             {net(ex, 3, ite(3, 1, 2, -2)), list(3), clauses(list(-1, 2, -3), list(1, -2, -3), list(3))},
		"an ite, negative":                             {net(ex, -3, ite(3, 1, 2, -2)), list(3), clauses(list(-1, -2, 3), list(1, 2, 3), list(-3))},
		"or in and, positive":                          {net(ex, 4, or(3, 1, 2), and(4, 3, 1)), list(3, 4), clauses(list(1, 2, -3), list(3, -4), list(1, -4), list(4))},
		"or in and, negative":                          {net(ex, -4, or(3, 1, 2), and(4, 3, 1)), list(3, 4), clauses(list(-1, 3), list(-2, 3), list(-1, -3, 4), list(-4))},
		"not or in and, positive":                      {net(ex, 4, or(3, 1, 2), and(4, -3, 1)), list(3, 4), clauses(list(-1, 3), list(-2, 3), list(-3, -4), list(1, -4), list(4))},
		"not or in and, negative":                      {net(ex, -4, or(3, 1, 2), and(4, -3, 1)), list(3, 4), clauses(list(1, 2, -3), list(-1, 3, 4), list(-4))},
		"not and in or, positive":                      {net(ex, 4, and(3, 1, 2), or(4, 1, -3)), list(3, 4), clauses(list(-1, -2, 3), list(1, -3, -4), list(4))},
		"not and in or, negative":                      {net(ex, -4, and(3, 1, 2), or(4, 1, -3)), list(3, 4), clauses(list(1, -3), list(2, -3), list(-1, 4), list(3, 4), list(-4))},
		"with both signs, by one gate":                 {net(ex, 4, and(3, 1), or(4, 3, -3)), list(3, 4), clauses(list(1, -3), list(-1, 3), list(4))},
		"with both signs, by two gates":                {net(ex, 5, and(3, 1), or(4, -3, 2), and(5, 3, 4)), list(3, 4, 5), clauses(list(1, -3), list(-1, 3), list(2, -3, -4), list(3, -5), list(4, -5), list(5))},
		"with both signs, the later one Out's":         {net(ex, -4, and(3, 1, 2), xor(4, 3, 1)), list(3, 4), clauses(list(1, -3), list(2, -3), list(-1, -2, 3), list(1, -3, 4), list(-1, 3, 4), list(-4))},
		"the first of a xor":                           {net(ex, 4, and(3, 1, 2), xor(4, 3, 1)), list(3, 4), clauses(list(1, -3), list(2, -3), list(-1, -2, 3), list(1, 3, -4), list(-1, -3, -4), list(4))},
		"the second of a xor, negative":                {net(ex, 4, or(3, 1, 2), xor(4, 1, -3)), list(3, 4), clauses(list(1, 2, -3), list(-1, 3), list(-2, 3), list(1, -3, -4), list(-1, 3, -4), list(4))},
		"the condition of an ite":                      {net(ex, 4, or(3, 1, 2), ite(4, 3, 1, 2)), list(3, 4), clauses(list(1, 2, -3), list(-1, 3), list(-2, 3), list(1, -3, -4), list(2, 3, -4), list(4))},
		"the condition of an ite, negative":            {net(ex, -4, or(3, 1, 2), ite(4, -3, 1, 2)), list(3, 4), clauses(list(1, 2, -3), list(-1, 3), list(-2, 3), list(-1, 3, 4), list(-2, -3, 4), list(-4))},
		"the second of an ite, positive":               {net(ex, 4, or(3, 1, 2), ite(4, 1, 3, 2)), list(3, 4), clauses(list(1, 2, -3), list(-1, 3, -4), list(1, 2, -4), list(4))},
		"the second of an ite, negative":               {net(ex, -4, or(3, 1, 2), ite(4, 1, 3, 2)), list(3, 4), clauses(list(-1, 3), list(-2, 3), list(-1, -3, 4), list(1, -2, 4), list(-4))},
		"the third of an ite, positive":                {net(ex, 4, or(3, 1, 2), ite(4, 1, 2, -3)), list(3, 4), clauses(list(-1, 3), list(-2, 3), list(-1, 2, -4), list(1, -3, -4), list(4))},
		"the third of an ite, negative":                {net(ex, -4, or(3, 1, 2), ite(4, 1, 2, -3)), list(3, 4), clauses(list(1, 2, -3), list(-1, -2, 4), list(1, 3, 4), list(-4))},
		"a condition and an argument":                  {net(ex, 4, and(3, 1), ite(4, 3, 3, 2)), list(3, 4), clauses(list(1, -3), list(-1, 3), list(2, 3, -4), list(4))},
		"through several gates, an even number of not": {net(ex, -6, or(3, 1), and(4, -3), or(5, 4), and(6, 5)), list(3, 4, 5, 6), clauses(list(1, -3), list(3, 4), list(-4, 5), list(-5, 6), list(-6))},
		"through several gates, both signs":            {net(ex, 6, or(3, 1), and(4, -3), xor(5, 4, 2), and(6, 5)), list(3, 4, 5, 6), clauses(list(1, -3), list(-1, 3), list(-3, -4), list(3, 4), list(2, 4, -5), list(-2, -4, -5), list(5, -6), list(6))},
		"a clause that is left out":                    {net(ex, -3, and(3, 1, -1)), list(3), clauses(list(-3))},
		"a clause that is left out of an or":           {net(ex, 3, or(3, 1, -1)), list(3), clauses(list(3))},
		"the empty and, positive":                      {net(ex, 3, and(3)), list(3), clauses(list(3))},
		"the empty and, negative":                      {net(ex, -3, and(3)), list(3), clauses(list(3), list(-3))},
		"the empty or, positive":                       {net(ex, 3, or(3)), list(3), clauses(list(-3), list(3))},
		"the empty or, negative":                       {net(ex, -3, or(3)), list(3), clauses(list(-3))},
		"only the greatest variables":                  {net(ex, -65536, or(65535, 1), and(65536, 65535)), list(65535, 65536), clauses(list(-1, 65535), list(-65535, 65536), list(-65536))},
	} {
		half.returns(t, name, c.n, blocks(some(append(list(1, 2), c.vars...)...)), c.f)
		written(t, c.n)
		c.n.Prefix = blocks(all(1), some(2))
		half.returns(t, name+", for all 1", c.n, blocks(all(1), some(append(list(2), c.vars...)...)), c.f)
		c.n.Prefix = blocks(some(2), all(1))
		want := c.n.Prefix
		if len(c.vars) > 0 {
			want = blocks(some(2), all(1), some(c.vars...))
		}
		half.returns(t, name+", for all 1 at last", c.n, want, c.f)
	}
	half.returns(t, "a net without blocks", net(nil, -2, or(1), and(2, 1), xor(3, 1, 2)), blocks(some(1, 2)), clauses(list(-1, 2), list(-2)))
}

// TestSmallNets: all nets of one gate over two variables, or of one over one variable and then another over both.
func TestSmallNets(t *testing.T) {
	for _, g := range gatesOver(3, 3, literals(1, 2)) {
		for _, out := range literals(1, 3) {
			written(t, net(blocks(some(2), all(1)), out, g))
		}
	}
	for _, g := range gatesOver(3, 2, literals(1)) {
		for _, h := range gatesOver(2, 2, literals(1, 3)) {
			for _, out := range literals(2, 3) {
				written(t, net(blocks(some(1)), out, g, h))
			}
		}
	}
}

func TestNetsOfAllSorts(t *testing.T) {
	d := dice(2)
	seen := map[api.Errno]int{}
	for range 20000 {
		n := d.net(6, 12)
		written(t, n)
		n = d.brokenNet(n)
		written(t, n)
		_, e := enc.Half(n)
		seen[e]++
	}
	if seen[api.OK] < 1000 || seen[api.ErrArg] < 1000 {
		t.Errorf("%v", seen)
	}
}

// TestBrokenNets: what is no valid net is refused.
func TestBrokenNets(t *testing.T) {
	p := blocks(some(1), all(2))
	for name, n := range map[string]api.Net{
		"nothing":                   {},
		"Out without variables":     net(nil, 1),
		"Out 0":                     net(p, 0),
		"Out that is nowhere":       net(p, 3, and(4, 1)),
		"-Out that is nowhere":      net(p, -3),
		"Out 65537":                 net(p, 65537),
		"Out the least int":         net(p, math.MinInt),
		"Out the greatest int":      net(p, math.MaxInt),
		"an empty block":            net(blocks(some()), 3, and(3)),
		"an empty block at last":    net(blocks(all(1), some()), 3, and(3)),
		"neighbours that exist":     net(blocks(some(1), some(2)), 1),
		"a variable twice":          net(blocks(some(1, 1)), 1),
		"a variable in two blocks":  net(blocks(some(1), all(1)), 1),
		"variable 0":                net(blocks(some(0)), 1),
		"variable 65537":            net(blocks(some(65537)), 65537),
		"1025 variables":            net(blocks(some(variables(1, 1025)...)), 1),
		"a gate of no kind":         net(p, 3, api.Gate{Var: 3, In: list(1)}),
		"a gate of a fifth kind":    net(p, 3, api.Gate{Var: 3, Kind: 5, In: list(1)}),
		"xor of three":              net(p, 3, xor(3, 1, 2, 1)),
		"ite of two":                net(p, 3, ite(3, 1, 2)),
		"a gate of itself":          net(p, 3, and(3, 3)),
		"a gate of a later one":     net(p, 3, and(3, 4), and(4, 1)),
		"a gate of nothing known":   net(p, 3, and(3, 5)),
		"a gate that is a variable": net(p, 2, and(2, 1)),
		"two gates with one Var":    net(p, 3, and(3, 1), and(3, 2)),
		"Var 0":                     net(p, 1, and(0)),
		"Var -3":                    net(p, 1, and(-3)),
		"Var 65537":                 net(p, 1, and(65537)),
		"literal 0":                 net(p, 3, and(3, 0)),
		"literal the least int":     net(p, 3, and(3, math.MinInt)),
		"200001 literals":           net(p, 3, and(3, slices.Repeat(list(1), 200001)...)),
		"too long, and Out 4":       net(p, 4, and(3, slices.Repeat(list(1), 30000)...)),
		"too long, and a later one": net(p, 3, and(3, slices.Repeat(list(1), 30000)...), and(4, 5)),
	} {
		for _, fn := range both() {
			if q, e := fn.call(n); !sameQbf(q, api.Qbf{}) || e != api.ErrArg {
				t.Errorf("%s of %s: %v, %v", fn.name, name, q, e)
			}
		}
	}
}
