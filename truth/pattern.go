package truth

import (
	"iter"
	"math/bits"
)

// An assignment of a few variables is a number, in which each of them has a bit of its own: it is 1 if the variable is true.

// places returns a bit for each of some variables, the first one's being the least.
func places(vars []int) map[int]int {
	place := map[int]int{}
	for i, v := range vars {
		place[v] = 1 << i
	}
	return place
}

// each returns the bits of some variables, in their order.
func each(vars []int, place map[int]int) []int {
	var out []int
	for _, v := range vars {
		out = append(out, place[v])
	}
	return out
}

// spread puts bit i of n at the i-th of some bits.
func spread(n int, at []int) int {
	out := 0
	for ; n != 0; n &= n - 1 {
		out |= at[bits.TrailingZeros(uint(n))]
	}
	return out
}

// gather takes bit i from the i-th of some bits of n.
func gather(n int, at []int) int {
	out := 0
	for i, bit := range at {
		if n&bit != 0 {
			out |= 1 << i
		}
	}
	return out
}

// assignments tells all numbers that have no bits but those of some, in the order in which a table has its bits.
func assignments(at []int) iter.Seq[int] {
	return func(yield func(n int) bool) {
		for i := range 1 << len(at) {
			if !yield(spread(i, at)) {
				return
			}
		}
	}
}

// pattern is a set of numbers: those whose bits at care are those of value, which has no others.
type pattern struct {
	care, value int
}

func (p pattern) has(n int) bool { return n&p.care == p.value }

// falsifiers returns, of each clause, the assignments that do not satisfy it; equal ones once, since clauses may be repeated many times.
func falsifiers(clauses [][]int, place map[int]int) []pattern {
	var out []pattern
	seen := map[pattern]bool{}
	for _, c := range clauses {
		var p pattern
		for _, lit := range c {
			bit := place[max(lit, -lit)]
			p.care |= bit
			if lit < 0 {
				p.value |= bit
			}
		}
		if !seen[p] {
			seen[p] = true
			out = append(out, p)
		}
	}
	return out
}

// covered returns which of the numbers below 2^n are in one of some patterns.
func covered(n int, patterns iter.Seq[pattern]) []bool {
	out := make([]bool, 1<<n)
	seen := map[pattern]bool{}
	for p := range patterns {
		if seen[p] {
			continue
		}
		seen[p] = true
		free := len(out) - 1 - p.care
		for rest := free; ; rest = (rest - 1) & free {
			out[p.value|rest] = true
			if rest == 0 {
				break
			}
		}
	}
	return out
}
