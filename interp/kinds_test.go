package interp_test

import (
	"slices"
	"testing"

	"skolem/api"
)

// P11.2, for proofs of all sorts.

// TestSmall holds both functions against the definition for all CNFs of up to four clauses of two variables that nothing satisfies, with all sides.
func TestSmall(t *testing.T) {
	held := 0
	for n := range 5 {
		for _, f := range small(n, variables(1, 2)) {
			for _, p := range refutations(f) {
				for _, left := range subsets(n) {
					for _, fn := range both() {
						fn.made(t, f, left, p)
						held++
					}
				}
			}
		}
	}
	if held < 100000 {
		t.Errorf("%d calls", held)
	}
}

// refutations returns the refutation of clauses that has each clause as a line and then each new resolvent, and the one for which the clauses come in the other order; none, if there is no refutation. They end at the first empty clause.
func refutations(f [][]int) []api.Proof {
	var all []api.Proof
	for _, backward := range []bool{false, true} {
		w := &lines{f: f}
		for i := range f {
			if backward {
				i = len(f) - 1 - i
			}
			if !w.isEmpty() {
				w.in(i)
			}
		}
		for a := 0; a < len(w.list) && !w.isEmpty(); a++ {
			for b := range a {
				w.news(a, b)
				w.news(b, a)
			}
		}
		if w.isEmpty() {
			all = append(all, w.proof())
		}
	}
	return all
}

// isEmpty reports whether there is a last line, of the empty clause.
func (w *lines) isEmpty() bool {
	return len(w.list) > 0 && len(w.list[len(w.list)-1].Lits) == 0
}

// news adds the resolvents of two lines that no line has yet, up to the empty one.
func (w *lines) news(a, b int) {
	for _, piv := range w.list[a].Lits {
		l, ok := naiveResolvent(w.list[a].Lits, w.list[b].Lits, piv)
		if ok && !w.isEmpty() && !slices.ContainsFunc(w.list, func(x api.Line) bool { return slices.Equal(x.Lits, l) }) {
			w.on(piv, a, b)
		}
	}
}

// kind is a sort of resolution: the side of the variable, the edges of both lines (false, true, an input, an And; of the variable itself or its opposite), and how they are to each other.
type kind struct {
	side, a, b, pair string
}

// sort returns what sort of edge one is.
func (g *naiveGraph) sort(edge, x int) string {
	switch {
	case edge == 0:
		return "false"
	case edge == 1:
		return "true"
	case edge == x:
		return "the variable"
	case edge == x^1:
		return "its opposite"
	case edge/2 <= len(g.ins) && edge%2 == 0:
		return "input"
	case edge/2 <= len(g.ins):
		return "opposite input"
	case edge%2 == 0:
		return "and"
	}
	return "opposite and"
}

// kinds counts the resolutions of a proof by their sort.
func kinds(f [][]int, left []int, p api.Proof, strong bool, count map[kind]int) {
	g, edges := naiveEdges(f, left, p, strong)
	s := sidesOf(f, left)
	for _, l := range p.Lines {
		if l.Rule != api.RuResolve {
			continue
		}
		k, x := kind{side: "shared", pair: "different"}, -2
		switch {
		case !s.inRight[l.Piv]:
			k.side = "left"
		case !s.inLeft[l.Piv]:
			k.side = "right"
		default:
			x = g.in[l.Piv]
		}
		switch a, b := edges[l.A], edges[l.B]; {
		case a == b:
			k.pair = "equal"
		case a == b^1:
			k.pair = "opposite"
		}
		k.a, k.b = g.sort(edges[l.A], x), g.sort(edges[l.B], x)
		count[k]++
	}
}

// TestKinds holds both functions against the definition for proofs that have resolutions of all sorts.
func TestKinds(t *testing.T) {
	d := dice(2)
	for _, fn := range both() {
		count := map[kind]int{}
		for range 500 {
			f, p := d.woven(d.vars(2 + d.below(5)))
			for range 4 {
				left := d.left(len(f))
				fn.made(t, f, left, p)
				kinds(f, left, p, fn.strong, count)
			}
			f, left, p := d.sided(d.vars(4 + d.below(5)))
			fn.made(t, f, left, p)
			kinds(f, left, p, fn.strong, count)
		}
		if len(count) < 110 {
			t.Errorf("%s: %d sorts of resolutions", fn.name, len(count))
		}
		seen := map[string]int{}
		for k, n := range count {
			seen[k.side+", "+k.pair] += n
			seen[k.side+", the first one "+k.a] += n
			seen[k.side+", the second one "+k.b] += n
		}
		for _, side := range []string{"left", "right", "shared"} {
			for _, what := range []string{"equal", "opposite", "different", "the first one input", "the first one opposite input", "the first one and", "the first one opposite and", "the second one input", "the second one opposite input", "the second one and", "the second one opposite and"} {
				if seen[side+", "+what] == 0 {
					t.Errorf("%s: no resolution with a pivot that is %s, %s", fn.name, side, what)
				}
			}
		}
		for _, what := range []string{"left, the first one false", "left, the second one false", "right, the first one true", "right, the second one true", "shared, the first one the variable", "shared, the second one the variable", "shared, the first one its opposite", "shared, the second one its opposite"} {
			if seen[what] == 0 {
				t.Errorf("%s: no resolution with a pivot that is %s", fn.name, what)
			}
		}
	}
}
