package circ_test

import (
	"slices"

	"skolem/api"
)

// The functions of this file follow the chapter's sentences word by word, without regard to time; the tests hold the package against them. Those behind naiveMay are for valid nets only.

func all(v ...int) api.Block { return api.Block{Vars: v} }

func some(v ...int) api.Block { return api.Block{Exists: true, Vars: v} }

func prefix(b ...api.Block) []api.Block { return b }

func and(v int, in ...int) api.Gate { return api.Gate{Var: v, Kind: api.GateAnd, In: in} }

func or(v int, in ...int) api.Gate { return api.Gate{Var: v, Kind: api.GateOr, In: in} }

func xor(v int, in ...int) api.Gate { return api.Gate{Var: v, Kind: api.GateXor, In: in} }

func ite(v int, in ...int) api.Gate { return api.Gate{Var: v, Kind: api.GateIte, In: in} }

func net(p []api.Block, out int, gates ...api.Gate) api.Net {
	return api.Net{Prefix: p, Gates: gates, Out: out}
}

// numbersOf returns the numbers in blocks, in order, as often as they are there.
func numbersOf(p []api.Block) []int {
	var l []int
	for _, b := range p {
		l = append(l, b.Vars...)
	}
	return l
}

// namesOf returns the numbers in the prefix and the Vars of the gates.
func namesOf(n api.Net) []int {
	l := numbersOf(n.Prefix)
	for _, g := range n.Gates {
		l = append(l, g.Var)
	}
	return l
}

func sorted(l []int) []int {
	s := slices.Clone(l)
	slices.Sort(s)
	return s
}

// areVariables reports whether all numbers are from 1 to MaxVar, and none occurs twice.
func areVariables(l []int) bool {
	return len(slices.Compact(sorted(l))) == len(l) && !slices.ContainsFunc(l, func(v int) bool { return v < 1 || v > 65536 })
}

// areLiterals reports whether all numbers are some variables or their negatives.
func areLiterals(l, vars []int) bool {
	return !slices.ContainsFunc(l, func(x int) bool { return !slices.Contains(vars, x) && !slices.Contains(vars, -x) })
}

func hasKind(g api.Gate) bool {
	return g.Kind == api.GateAnd || g.Kind == api.GateOr || g.Kind == api.GateXor && len(g.In) == 2 || g.Kind == api.GateIte && len(g.In) == 3
}

func literalsIn(gates []api.Gate) int {
	n := 0
	for _, g := range gates {
		n += len(g.In)
	}
	return n
}

func naiveMayPrefix(p []api.Block) bool {
	for i, b := range p {
		if len(b.Vars) == 0 || i > 0 && p[i-1].Exists == b.Exists {
			return false
		}
	}
	return areVariables(numbersOf(p)) && len(numbersOf(p)) <= 1024
}

func naiveMay(n api.Net) bool {
	names := namesOf(n)
	if !naiveMayPrefix(n.Prefix) || !areVariables(names) || literalsIn(n.Gates) > 200000 {
		return false
	}
	inputs := len(numbersOf(n.Prefix))
	for i, g := range n.Gates {
		if !hasKind(g) || !areLiterals(g.In, names[:inputs+i]) {
			return false
		}
	}
	return areLiterals([]int{n.Out}, names)
}

// gateOf returns the gate of a variable; false: it is one of the prefix.
func gateOf(n api.Net, v int) (api.Gate, bool) {
	for _, g := range n.Gates {
		if g.Var == v {
			return g, true
		}
	}
	return api.Gate{}, false
}

func naiveValue(n api.Net, a []int, lit int) bool {
	if lit < 0 {
		return !naiveValue(n, a, -lit)
	}
	g, ok := gateOf(n, lit)
	if !ok {
		return slices.Contains(a, lit)
	}
	count := 0
	for _, x := range g.In {
		if naiveValue(n, a, x) {
			count++
		}
	}
	switch {
	case g.Kind == api.GateAnd:
		return count == len(g.In)
	case g.Kind == api.GateOr:
		return count > 0
	case g.Kind == api.GateXor:
		return count == 1
	case naiveValue(n, a, g.In[0]):
		return naiveValue(n, a, g.In[1])
	}
	return naiveValue(n, a, g.In[2])
}

func naiveValues(n api.Net, a []int) []bool {
	var l []bool
	for _, g := range n.Gates {
		l = append(l, naiveValue(n, a, g.Var))
	}
	return l
}

// naiveReached returns the variables that are reached from a literal, ascending.
func naiveReached(n api.Net, lit int) []int {
	l := []int{max(lit, -lit)}
	if g, ok := gateOf(n, l[0]); ok {
		for _, x := range g.In {
			l = append(l, naiveReached(n, x)...)
		}
	}
	return slices.Compact(sorted(l))
}

func naiveSupport(n api.Net, lit int) []int {
	inputs := numbersOf(n.Prefix)
	return slices.DeleteFunc(naiveReached(n, lit), func(v int) bool { return !slices.Contains(inputs, v) })
}

// naiveOrder takes the first gate that can be taken, again and again; false: some are left.
func naiveOrder(ins []int, gates []api.Gate) ([]api.Gate, bool) {
	have, left := slices.Clone(ins), slices.Clone(gates)
	var out []api.Gate
	for len(left) > 0 {
		i := slices.IndexFunc(left, func(g api.Gate) bool { return areLiterals(g.In, have) })
		if i < 0 {
			return nil, false
		}
		out, have = append(out, left[i]), append(have, left[i].Var)
		left = slices.Delete(left, i, i+1)
	}
	return out, true
}

// meaning is true, false, or a literal.
type meaning struct {
	is  string
	lit int
}

var isTrue, isFalse = meaning{is: "true"}, meaning{is: "false"}

func (m meaning) opposite() meaning {
	switch m.is {
	case "true":
		return isFalse
	case "false":
		return isTrue
	}
	return meaning{"literal", -m.lit}
}

// naiveGate returns what a gate of a kind means, or with which kind and literals it stays.
func naiveGate(kind api.GateKind, in ...meaning) (m meaning, stays api.GateKind, left []meaning) {
	switch kind {
	case api.GateAnd:
		for i, x := range in {
			if x != isTrue && !slices.Contains(in[:i], x) {
				left = append(left, x)
			}
		}
		opposites := slices.ContainsFunc(left, func(x meaning) bool { return slices.Contains(left, x.opposite()) })
		switch {
		case slices.Contains(left, isFalse) || opposites:
			return isFalse, api.NoGate, nil
		case len(left) == 0:
			return isTrue, api.NoGate, nil
		case len(left) == 1:
			return left[0], api.NoGate, nil
		}
		return m, kind, left
	case api.GateOr:
		for i, x := range in {
			if x != isFalse && !slices.Contains(in[:i], x) {
				left = append(left, x)
			}
		}
		opposites := slices.ContainsFunc(left, func(x meaning) bool { return slices.Contains(left, x.opposite()) })
		switch {
		case slices.Contains(left, isTrue) || opposites:
			return isTrue, api.NoGate, nil
		case len(left) == 0:
			return isFalse, api.NoGate, nil
		case len(left) == 1:
			return left[0], api.NoGate, nil
		}
		return m, kind, left
	case api.GateXor:
		switch a, b := in[0], in[1]; {
		case a == isFalse:
			return b, api.NoGate, nil
		case a == isTrue:
			return b.opposite(), api.NoGate, nil
		case b == isFalse:
			return a, api.NoGate, nil
		case b == isTrue:
			return a.opposite(), api.NoGate, nil
		case a == b:
			return isFalse, api.NoGate, nil
		case a == b.opposite():
			return isTrue, api.NoGate, nil
		}
		return m, kind, in
	}
	switch c, a, b := in[0], in[1], in[2]; {
	case c == isTrue:
		return a, api.NoGate, nil
	case c == isFalse:
		return b, api.NoGate, nil
	case a == b:
		return a, api.NoGate, nil
	case a == isTrue:
		return naiveGate(api.GateOr, c, b)
	case a == isFalse:
		return naiveGate(api.GateAnd, c.opposite(), b)
	case b == isTrue:
		return naiveGate(api.GateOr, c.opposite(), a)
	case b == isFalse:
		return naiveGate(api.GateAnd, c, a)
	}
	return m, kind, in
}

// naiveWithout takes variables out of a prefix.
func naiveWithout(p []api.Block, gone []int) []api.Block {
	var l []api.Block
	for _, b := range p {
		if left := slices.DeleteFunc(slices.Clone(b.Vars), func(v int) bool { return slices.Contains(gone, v) }); len(left) > 0 {
			l = append(l, api.Block{Exists: b.Exists, Vars: left})
		}
	}
	for i := 1; i < len(l); {
		if l[i].Exists != l[i-1].Exists {
			i++
			continue
		}
		l[i-1].Vars = append(l[i-1].Vars, l[i].Vars...)
		l = slices.Delete(l, i, i+1)
	}
	return l
}

// leastWithout returns the ascending variables that are not in a list.
func leastWithout(l []int) []int {
	var out []int
	for v := 1; v <= 65536; v++ {
		if !slices.Contains(l, v) {
			out = append(out, v)
		}
		if len(out) > 100 { // no test asks for more
			break
		}
	}
	return out
}

func naiveSimplified(n api.Net, fixed []int) api.Net {
	means := map[int]meaning{}
	var gone []int
	for _, v := range numbersOf(n.Prefix) {
		means[v], means[-v] = meaning{"literal", v}, meaning{"literal", -v}
	}
	for _, lit := range fixed {
		means[lit], means[-lit] = isTrue, isFalse
		gone = append(gone, max(lit, -lit))
	}
	var stay []api.Gate
	for _, g := range n.Gates {
		var in []meaning
		for _, lit := range g.In {
			in = append(in, means[lit])
		}
		m, kind, left := naiveGate(g.Kind, in...)
		if kind != api.NoGate {
			m = meaning{"literal", g.Var}
			var lits []int
			for _, x := range left {
				lits = append(lits, x.lit)
			}
			stay = append(stay, api.Gate{Var: g.Var, Kind: kind, In: lits})
		}
		means[g.Var], means[-g.Var] = m, m.opposite()
	}
	out := api.Net{Prefix: naiveWithout(n.Prefix, gone)}
	switch m := means[n.Out]; m.is {
	case "literal":
		out.Out, out.Gates = m.lit, stay
		reached := naiveReached(out, m.lit)
		out.Gates = slices.DeleteFunc(stay, func(g api.Gate) bool { return !slices.Contains(reached, g.Var) })
	default:
		out.Out = leastWithout(numbersOf(out.Prefix))[0]
		out.Gates = []api.Gate{and(out.Out)}
		if m == isFalse {
			out.Out *= -1
		}
	}
	return out
}

// naiveCompose puts m in the place of a variable, if there are enough variables and not too many literals.
func naiveCompose(n api.Net, v int, m api.Net) api.Net {
	names := leastWithout(namesOf(n))
	inM, inN := map[int]int{}, map[int]int{}
	for k, g := range m.Gates {
		inM[g.Var], inM[-g.Var] = names[k], -names[k]
	}
	changed := func(lit int, to map[int]int) int {
		if x, ok := to[lit]; ok {
			return x
		}
		return lit
	}
	inN[v], inN[-v] = changed(m.Out, inM), -changed(m.Out, inM)
	out := api.Net{Prefix: naiveWithout(n.Prefix, []int{v}), Out: changed(n.Out, inN)}
	for k, g := range m.Gates {
		var in []int
		for _, lit := range g.In {
			in = append(in, changed(lit, inM))
		}
		out.Gates = append(out.Gates, api.Gate{Var: names[k], Kind: g.Kind, In: in})
	}
	for _, g := range n.Gates {
		var in []int
		for _, lit := range g.In {
			in = append(in, changed(lit, inN))
		}
		out.Gates = append(out.Gates, api.Gate{Var: g.Var, Kind: g.Kind, In: in})
	}
	return out
}

// sameNets reports whether two nets are equal in all fields; lists without elements are equal.
func sameNets(a, b api.Net) bool {
	return slices.EqualFunc(a.Prefix, b.Prefix, func(x, y api.Block) bool { return x.Exists == y.Exists && slices.Equal(x.Vars, y.Vars) }) &&
		sameGates(a.Gates, b.Gates) && a.Out == b.Out
}

func sameGates(a, b []api.Gate) bool {
	return slices.EqualFunc(a, b, func(x, y api.Gate) bool { return x.Var == y.Var && x.Kind == y.Kind && slices.Equal(x.In, y.In) })
}
