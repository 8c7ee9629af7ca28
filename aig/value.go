package aig

import "skolem/api"

// A word has the values of an edge under 64 assignments, one in each bit.

// word returns the word of an edge.
func word(value []uint64, edge int) uint64 {
	w := value[edge/2]
	if edge%2 == 1 {
		return ^w
	}
	return w
}

// run works out the words of some Ands, which ascend, from those of the inputs.
func run(g api.Aig, ands []int, value []uint64) {
	first := 1 + len(g.Ins)
	for _, n := range ands {
		pair := g.Ands[n-first]
		value[n] = word(value, pair[0]) & word(value, pair[1])
	}
}

// Eval returns the value of an edge under an assignment; inputs that do not occur in it are false.
func Eval(g api.Aig, edge int, a []int) (bool, api.Errno) {
	if !has(g, edge) || !normal(a) {
		return false, api.ErrArg
	}
	value := make([]uint64, nodes(g))
	for _, lit := range a {
		if n := place(g.Ins, lit); n > 0 {
			value[n] = 1
		}
	}
	_, ands := reached(g, edge)
	run(g, ands, value)
	return word(value, edge)%2 == 1, api.OK
}

// column returns the word of variable number k of a table for 64 of its rows.
func column(k, row int) uint64 {
	w := uint64(0)
	for i := range 64 {
		w |= uint64((row+i)>>k&1) << i
	}
	return w
}

// Table returns the values of an edge for all values of some variables (the first one changes fastest); other inputs are false.
func Table(g api.Aig, edge int, vars []int) ([]bool, api.Errno) {
	if !has(g, edge) || !areDifferent(vars) {
		return nil, api.ErrArg
	}
	if len(vars) > api.MaxTable {
		return nil, api.ErrLong
	}
	_, ands := reached(g, edge)
	value := make([]uint64, nodes(g))
	out := make([]bool, 1<<len(vars))
	for i := range out {
		if i%64 == 0 {
			for k, v := range vars {
				if n := place(g.Ins, v); n > 0 {
					value[n] = column(k, i)
				}
			}
			run(g, ands, value)
		}
		out[i] = word(value, edge)>>(i%64)%2 == 1
	}
	return out, api.OK
}
