package circ

import "skolem/api"

// The meanings true and false are numbers that are no literals; each is the negative of the other one, like the two literals of a variable.
const (
	yes = api.MaxVar + 1
	no  = -yes
)

// outcome is what becomes of a gate: it stays, with a kind and literals; or, if the kind is NoGate, it has a meaning instead.
type outcome struct {
	kind    api.GateKind
	in      []int
	meaning int
}

func means(x int) outcome { return outcome{meaning: x} }

// merged returns what becomes of a gate of a list of meanings, of which one makes no difference and its opposite decides.
func merged(kind api.GateKind, in []int, idle int) outcome {
	var left []int
	seen := map[int]bool{}
	for _, x := range in {
		if x == -idle || seen[-x] {
			return means(-idle)
		}
		if x != idle && !seen[x] {
			seen[x] = true
			left = append(left, x)
		}
	}
	switch len(left) {
	case 0:
		return means(idle)
	case 1:
		return means(left[0])
	}
	return outcome{kind: kind, in: left}
}

func and(in ...int) outcome { return merged(api.GateAnd, in, yes) }

func or(in ...int) outcome { return merged(api.GateOr, in, no) }

func xor(a, b int) outcome {
	switch {
	case a == no:
		return means(b)
	case a == yes:
		return means(-b)
	case b == no:
		return means(a)
	case b == yes:
		return means(-a)
	case a == b:
		return means(no)
	case a == -b:
		return means(yes)
	}
	return outcome{kind: api.GateXor, in: []int{a, b}}
}

func ite(c, a, b int) outcome {
	switch {
	case c == yes:
		return means(a)
	case c == no:
		return means(b)
	case a == b:
		return means(a)
	case a == yes:
		return or(c, b)
	case a == no:
		return and(-c, b)
	case b == yes:
		return or(-c, a)
	case b == no:
		return and(c, a)
	}
	return outcome{kind: api.GateIte, in: []int{c, a, b}}
}

// simplifiers returns, for each kind, what becomes of a gate whose literals have some meanings.
func simplifiers() [api.GateIte + 1]func(in []int) outcome {
	return [...]func(in []int) outcome{
		api.GateAnd: func(in []int) outcome { return and(in...) },
		api.GateOr:  func(in []int) outcome { return or(in...) },
		api.GateXor: func(in []int) outcome { return xor(in[0], in[1]) },
		api.GateIte: func(in []int) outcome { return ite(in[0], in[1], in[2]) },
	}
}

// constant returns a net with a valid prefix whose value is always the same.
func constant(p []api.Block, value bool) api.Net {
	inputs, _ := quantified(p)
	v := unused(inputs, 1)[0] // there is one: a prefix has MaxQuant variables at most
	n := api.Net{Prefix: p, Gates: []api.Gate{{Var: v, Kind: api.GateAnd}}, Out: v}
	if !value {
		n.Out = -v
	}
	return n
}

// simplified returns the simplification of a valid net in which some literals of the prefix are true.
func simplified(n api.Net, fixed []int) api.Net {
	meaning := map[int]int{} // of variables that do not mean themselves
	for _, lit := range fixed {
		meaning[variable(lit)] = no
		if lit > 0 {
			meaning[lit] = yes
		}
	}
	p := without(n.Prefix, meaning)
	become := simplifiers()
	var stay []api.Gate
	for _, g := range n.Gates {
		o := become[g.Kind](images(g.In, meaning))
		if o.kind == api.NoGate {
			meaning[g.Var] = o.meaning
		} else {
			stay = append(stay, api.Gate{Var: g.Var, Kind: o.kind, In: o.in})
		}
	}
	out := image(n.Out, meaning)
	if variable(out) == yes {
		return constant(p, out == yes)
	}
	return api.Net{Prefix: p, Gates: used(stay, out), Out: out}
}

// Simple returns the net without constants, and without gates that are not used.
func Simple(n api.Net) (api.Net, api.Errno) {
	if !May(n) {
		return api.Net{}, api.ErrArg
	}
	return simplified(n, nil), api.OK
}

// Cofactor returns the net with constants in the place of some variables of the prefix.
func Cofactor(n api.Net, a []int) (api.Net, api.Errno) {
	if !May(n) || !normal(a) {
		return api.Net{}, api.ErrArg
	}
	inputs, _ := quantified(n.Prefix)
	if !areOf(a, inputs) {
		return api.Net{}, api.ErrNone
	}
	return simplified(n, a), api.OK
}
