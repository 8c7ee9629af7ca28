package interp_test

import (
	"slices"
	"testing"

	"skolem/api"
	"skolem/interp"
)

// P11.2

// function is Make or Strong.
type function struct {
	name   string
	call   func(f [][]int, left []int, p api.Proof) (api.Aig, int, api.Errno)
	strong bool
}

func both() []function {
	return []function{{"Make", interp.Make, false}, {"Strong", interp.Strong, true}}
}

// made holds a function against the definition.
func (fn function) made(t *testing.T, f [][]int, left []int, p api.Proof) (api.Aig, int, api.Errno) {
	t.Helper()
	g, edge, e := fn.call(f, left, p)
	if want, at, err := naiveInterpolant(f, left, p, fn.strong); !sameGraph(g, want) || edge != at || e != err {
		t.Errorf("%s(%v, %v, %v) = %v, %d, %v, not %v, %d, %v", fn.name, f, left, p, g, edge, e, want, at, err)
	}
	return g, edge, e
}

// result is what Make or Strong returns without an error.
type result struct {
	ins  []int
	ands [][2]int
	edge int
}

// returned holds both functions against what they must return.
func returned(t *testing.T, name string, f [][]int, left []int, p api.Proof, make, strong result) {
	t.Helper()
	for _, fn := range both() {
		want := make
		if fn.strong {
			want = strong
		}
		g, edge, e := fn.made(t, f, left, p)
		if !slices.Equal(g.Ins, want.ins) || !slices.Equal(g.Ands, want.ands) || edge != want.edge || e != api.OK {
			t.Errorf("%s, %s: %v, %d, %v, not %v", name, fn.name, g, edge, e, want)
		}
	}
}

// refused holds both functions against an error.
func refused(t *testing.T, name string, f [][]int, left []int, p api.Proof, err api.Errno) {
	t.Helper()
	for _, fn := range both() {
		if g, edge, e := fn.call(f, left, p); !isNothing(g) || edge != 0 || e != err {
			t.Errorf("%s, %s: %v, %d, %v, not %v", name, fn.name, g, edge, e, err)
		}
	}
}

// example has the CNF and the lines of the chapter's examples.
func example() ([][]int, api.Proof) {
	w := &lines{f: [][]int{{1, 2}, {-1, 2}, {-2, 3}, {-3}}}
	two := w.on(1, w.in(0), w.in(1))
	w.on(3, w.on(2, two, w.in(2)), w.in(3))
	return w.f, w.proof()
}

func TestChapterExamples(t *testing.T) {
	f, p := example()
	if len(p.Lines) != 7 {
		t.Fatalf("%v", p)
	}
	two := result{ins: []int{2}, edge: 2}
	returned(t, "left 0, 1", f, []int{0, 1}, p, two, two)
	if g, edge, e := interp.Make(f, []int{2, 3}, p); !sameGraph(g, api.Aig{Ins: []int{2}}) || edge != 3 || e != api.OK {
		t.Errorf("left 2, 3: %v, %d, %v", g, edge, e)
	}
}

// TestInputs: the rules of an input of either side alone, or of two whose resolvent is empty.
func TestInputs(t *testing.T) {
	none := func(edge int) result { return result{edge: edge} }
	one := func(v, edge int) result { return result{ins: []int{v}, edge: edge} }
	alone := func(f [][]int, at int) api.Proof {
		w := &lines{f: f}
		w.in(at)
		return w.proof()
	}
	empty := [][]int{{}}
	returned(t, "the empty clause, left", empty, []int{0}, alone(empty, 0), none(0), none(0))
	returned(t, "the empty clause, right", empty, nil, alone(empty, 0), none(1), none(1))
	two := [][]int{{}, {4}, {}, {-4}}
	returned(t, "of two the left one", two, []int{0, 1}, alone(two, 0), one(4, 0), one(4, 0))
	returned(t, "of two the right one", two, []int{0, 1}, alone(two, 2), one(4, 1), one(4, 1))
	returned(t, "the last clause, left", two, []int{2, 3}, alone(two, 2), one(4, 0), one(4, 0))
	for _, v := range []int{1, 2, 65535, 65536} {
		w := &lines{f: [][]int{{v}, {-v}}}
		w.on(v, w.in(0), w.in(1))
		returned(t, "a literal and its negation, the positive one left", w.f, []int{0}, w.proof(), one(v, 2), one(v, 2))
		returned(t, "the negative one left", w.f, []int{1}, w.proof(), one(v, 3), one(v, 3))
		returned(t, "both left", w.f, []int{0, 1}, w.proof(), none(0), none(0))
		returned(t, "both right", w.f, nil, w.proof(), none(1), none(1))
	}
}

// TestClauses: Strong takes in the literals of a left clause with shared variables, in their order.
func TestClauses(t *testing.T) {
	refute := func(f [][]int) api.Proof { // the first clause, and then its literals one after the other
		w := &lines{f: f}
		last := w.in(0)
		for i, x := range f[0] {
			unit := w.in(1 + i)
			if x > 0 {
				last = w.on(x, last, unit)
			} else {
				last = w.on(-x, unit, last)
			}
		}
		return w.proof()
	}
	f := [][]int{{1, -2, 3}, {-1}, {2}, {-3}}
	all := variables(1, 3)
	returned(t, "all literals are shared", f, []int{0}, refute(f), // 1 or not 2 or 3
		result{all, [][2]int{{3, 4}, {7, 8}}, 11}, result{all, [][2]int{{3, 4}, {7, 8}}, 11})
	returned(t, "the first literal is left alone", f, []int{0, 1}, refute(f),
		result{[]int{2, 3}, [][2]int{{2, 5}}, 7}, result{[]int{2, 3}, [][2]int{{2, 5}}, 7})
	returned(t, "the second one is", f, []int{0, 2}, refute(f),
		result{[]int{1, 3}, [][2]int{{3, 5}}, 7}, result{[]int{1, 3}, [][2]int{{3, 5}}, 7})
	returned(t, "the third one is", f, []int{0, 3}, refute(f),
		result{[]int{1, 2}, [][2]int{{3, 4}}, 7}, result{[]int{1, 2}, [][2]int{{3, 4}}, 7})
	returned(t, "only the first one is shared", f, []int{0, 2, 3}, refute(f), result{[]int{1}, nil, 2}, result{[]int{1}, nil, 2})
	returned(t, "only the second one is", f, []int{0, 1, 3}, refute(f), result{[]int{2}, nil, 3}, result{[]int{2}, nil, 3})
	returned(t, "none is", f, numbers(0, 3), refute(f), result{}, result{})
	returned(t, "the units are left", f, []int{1, 2, 3}, refute(f), // not 1 and 2 and not 3
		result{all, [][2]int{{2, 4}, {4, 9}, {7, 11}, {7, 13}}, 14}, result{all, [][2]int{{3, 4}, {7, 8}}, 10})
}

// TestPivots: the rules of a resolvent, on a variable that is left alone, right alone, or shared; the edges are inputs, equal, opposite or constants.
func TestPivots(t *testing.T) {
	two := func(f [][]int, first, second [3]int) api.Proof { // 1, of two clauses on a variable, and -1, of two others; and the resolvent of both
		w := &lines{f: f}
		a := w.on(first[0], w.in(first[1]), w.in(first[2]))
		w.on(1, a, w.on(second[0], w.in(second[1]), w.in(second[2])))
		return w.proof()
	}
	either := func(name string, f [][]int, left []int, p api.Proof, want result) { // both functions return the same
		t.Helper()
		returned(t, name, f, left, p, want, want)
	}
	inputs := [][]int{{1, 2}, {-1, 3}, {-2}, {-3}}
	p := two(inputs, [3]int{2, 0, 2}, [3]int{3, 1, 3})
	either("a left pivot, inputs", inputs, []int{0, 1}, p, result{[]int{2, 3}, [][2]int{{3, 5}}, 7})
	either("a right pivot, inputs", inputs, []int{2, 3}, p, result{[]int{2, 3}, [][2]int{{3, 5}}, 6})
	either("a shared pivot, inputs", append(inputs, []int{1, 5}), []int{0, 1}, p, result{[]int{1, 2, 3}, [][2]int{{3, 5}, {2, 7}, {9, 11}}, 12})
	either("a pivot that the other clause is shared by", append(inputs, []int{-1, 5}), []int{0, 1}, p, result{[]int{1, 2, 3}, [][2]int{{3, 5}, {2, 7}, {9, 11}}, 12})
	returned(t, "a pivot that is shared with another left clause", append(inputs, []int{1, 5}), []int{2, 3, 4}, p,
		result{[]int{1, 2, 3}, [][2]int{{3, 4}, {2, 6}, {9, 11}}, 12}, result{[]int{1, 2, 3}, [][2]int{{5, 7}}, 8})

	equal := [][]int{{1, 2}, {-1, 2}, {-2}}
	p = two(equal, [3]int{2, 0, 2}, [3]int{2, 1, 2})
	either("a left pivot, equal edges", equal, []int{0, 1}, p, result{[]int{2}, nil, 2})
	either("a right pivot, equal edges", equal, []int{2}, p, result{[]int{2}, nil, 3})
	either("a shared pivot, equal edges", append(equal, []int{1, 5}), []int{0, 1}, p, result{[]int{1, 2}, [][2]int{{3, 5}, {2, 5}, {7, 9}}, 10})

	opposites := [][]int{{1, 2}, {-1, -2}, {-2}, {2}}
	p = two(opposites, [3]int{2, 0, 2}, [3]int{2, 3, 1})
	either("a left pivot, opposite edges", opposites, []int{0, 1}, p, result{[]int{2}, nil, 1})
	either("a right pivot, opposite edges", opposites, []int{2, 3}, p, result{[]int{2}, nil, 0})
	either("a shared pivot, opposite edges", append(opposites, []int{1, 5}), []int{0, 1}, p, result{[]int{1, 2}, [][2]int{{3, 5}, {2, 4}, {7, 9}}, 10})

	w := &lines{f: [][]int{{1}, {-1}, {1, 2}}}
	w.on(1, w.in(0), w.in(1))
	either("a left pivot, false and false", w.f, []int{0, 1, 2}, w.proof(), result{})
	either("a shared pivot, false and false", w.f, []int{0, 1}, w.proof(), result{[]int{1}, nil, 0})
	either("a shared pivot, false and true", w.f, []int{0, 2}, w.proof(), result{[]int{1}, nil, 2})
	either("a shared pivot, true and false", w.f, []int{1, 2}, w.proof(), result{[]int{1}, nil, 3})
	either("a shared pivot, true and true", w.f, []int{2}, w.proof(), result{[]int{1}, nil, 1})
	either("a right pivot, true and true", w.f, nil, w.proof(), result{edge: 1})
}

// TestOrder: edges are made for each line in order, also for those that the last one does not need.
func TestOrder(t *testing.T) {
	f := [][]int{{1, 2, 5}, {3, 4, -5}, {-1}, {-2}, {-3}, {-4}}
	finish := func(w *lines) api.Proof { // the two left clauses, and then the units
		last := w.on(5, w.in(0), w.in(1))
		for v := 1; v <= 4; v++ {
			last = w.on(v, last, w.in(v+1))
		}
		return w.proof()
	}
	all := variables(1, 4)
	inOrder := finish(&lines{f: f})
	w := &lines{f: f}
	w.in(1)
	for _, c := range []struct {
		p    api.Proof
		ands [][2]int
	}{{inOrder, [][2]int{{3, 5}, {7, 9}, {10, 12}}}, {finish(w), [][2]int{{7, 9}, {3, 5}, {10, 12}}}} {
		g, edge, e := both()[1].made(t, f, []int{0, 1}, c.p)
		if !sameGraph(g, api.Aig{Ins: all, Ands: c.ands}) || edge != 15 || e != api.OK {
			t.Errorf("Strong(%v): %v, %d, %v", c.p, g, edge, e)
		}
	}
	f = [][]int{{1, 2}, {-1, 3}, {-2}, {-3}, {1, 5}}
	w = &lines{f: f}
	b := w.on(3, w.in(1), w.in(3))
	a := w.on(1, w.in(4), b) // makes not 1 or 3, which is needed later
	a = w.on(2, w.in(0), w.in(2))
	w.on(1, a, b)
	g, edge, e := both()[0].made(t, f, []int{0, 1}, w.proof())
	if !sameGraph(g, api.Aig{Ins: variables(1, 3), Ands: [][2]int{{2, 7}, {3, 5}, {9, 11}}}) || edge != 12 || e != api.OK {
		t.Errorf("Make: %v, %d, %v", g, edge, e)
	}
}

// TestLeftOut: what the last line does not need is left out of the graph, but for its inputs.
func TestLeftOut(t *testing.T) {
	f := [][]int{{1, 2}, {-1, 3}, {-2}, {-3}, {1, 5}, {}, {}, {7}, {-7}}
	w := &lines{f: f}
	a := w.on(2, w.in(0), w.in(2))
	w.on(1, a, w.on(3, w.in(1), w.in(3)))
	for _, at := range []int{5, 6} {
		longer := &lines{f, slices.Clone(w.list)}
		longer.in(at)
		want := result{[]int{1, 2, 3, 7}, nil, at - 5} // clause 5 is left, 6 right
		returned(t, "the empty clause behind", f, []int{0, 1, 5, 7}, longer.proof(), want, want)
	}
	longer := &lines{f, slices.Clone(w.list)}
	longer.on(7, longer.in(7), longer.in(8))
	want := result{[]int{1, 2, 3, 7}, nil, 8}
	returned(t, "another refutation behind", f, []int{0, 1, 5, 7}, longer.proof(), want, want)
}

// TestUnused: the variables of clauses that the proof does not use count.
func TestUnused(t *testing.T) {
	w := &lines{f: [][]int{{1}, {-1}, {8, 9}, {-9, 10}, {1, -8}}}
	w.on(1, w.in(0), w.in(1))
	for _, c := range []struct {
		left []int
		want result
	}{
		{[]int{0, 1}, result{[]int{1}, nil, 0}}, {[]int{0, 1, 4}, result{[]int{8}, nil, 0}}, {[]int{0, 1, 2, 4}, result{[]int{9}, nil, 0}}, {[]int{0, 1, 3}, result{[]int{1, 9}, nil, 0}},
		{[]int{4}, result{[]int{1, 8}, nil, 1}}, {[]int{2}, result{[]int{8, 9}, nil, 1}}, {[]int{2, 4}, result{[]int{1, 9}, nil, 1}}, {nil, result{nil, nil, 1}}, {numbers(0, 4), result{}},
		{[]int{0, 2}, result{[]int{1, 8, 9}, nil, 2}}, {[]int{1, 2}, result{[]int{1, 8, 9}, nil, 3}},
	} {
		returned(t, "unused clauses", w.f, c.left, w.proof(), c.want, c.want)
	}
}
