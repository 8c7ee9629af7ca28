package circ

import (
	"container/heap"
	"slices"

	"skolem/api"
)

// ready is a heap of the numbers of gates, the first gate on top.
type ready []int

func (r ready) Len() int           { return len(r) }
func (r ready) Less(i, j int) bool { return r[i] < r[j] }
func (r ready) Swap(i, j int)      { r[i], r[j] = r[j], r[i] }

func (r *ready) Push(x any) { *r = append(*r, x.(int)) }

func (r *ready) Pop() any {
	last := len(*r) - 1
	x := (*r)[last]
	*r = (*r)[:last]
	return x
}

// areGates reports whether gates use nothing but some different variables and each other, in any order.
func areGates(ins []int, gates []api.Gate) bool {
	set := map[int]bool{}
	for _, v := range ins {
		if !enter(set, v) {
			return false
		}
	}
	for _, g := range gates {
		if !enter(set, g.Var) {
			return false
		}
	}
	return !slices.ContainsFunc(gates, func(g api.Gate) bool { return !fits(g) || !areOf(g.In, set) })
}

// users returns the numbers of the gates that use the variable of a gate, as often as they do, and of each gate how often it uses such variables.
func users(gates []api.Gate) (by map[int][]int, uses []int) {
	is := map[int]bool{}
	for _, g := range gates {
		is[g.Var] = true
	}
	by, uses = map[int][]int{}, make([]int, len(gates))
	for i, g := range gates {
		for _, lit := range g.In {
			if v := variable(lit); is[v] {
				by[v] = append(by[v], i)
				uses[i]++
			}
		}
	}
	return by, uses
}

// taken returns the numbers of gates in the order in which they are taken; those of a circle, and those that need them, are not among them.
func taken(gates []api.Gate) []int {
	by, left := users(gates)
	var wait ready
	for i, n := range left {
		if n == 0 {
			heap.Push(&wait, i)
		}
	}
	var order []int
	for wait.Len() > 0 {
		i := heap.Pop(&wait).(int)
		order = append(order, i)
		for _, user := range by[gates[i].Var] {
			left[user]--
			if left[user] == 0 {
				heap.Push(&wait, user)
			}
		}
	}
	return order
}

// Order returns the gates in an order in which each one comes behind those that it uses.
func Order(ins []int, gates []api.Gate) ([]api.Gate, api.Errno) {
	if !areGates(ins, gates) {
		return nil, api.ErrArg
	}
	if size(gates) > api.MaxLits {
		return nil, api.ErrLong
	}
	order := taken(gates)
	if len(order) < len(gates) {
		return nil, api.ErrCycle
	}
	var out []api.Gate
	for _, i := range order {
		g := gates[i]
		g.In = slices.Clone(g.In)
		out = append(out, g)
	}
	return out, api.OK
}
