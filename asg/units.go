package asg

import (
	"container/heap"

	"skolem/api"
	"skolem/lits"
)

// waiting is a heap of the numbers of clauses, the first clause on top.
type waiting []int

func (w waiting) Len() int           { return len(w) }
func (w waiting) Less(i, j int) bool { return w[i] < w[j] }
func (w waiting) Swap(i, j int)      { w[i], w[j] = w[j], w[i] }

func (w *waiting) Push(x any) { *w = append(*w, x.(int)) }

func (w *waiting) Pop() any {
	last := len(*w) - 1
	x := (*w)[last]
	*w = (*w)[:last]
	return x
}

// propagation is the state of unit propagation.
type propagation struct {
	clauses [][]int
	holds   map[int]bool  // the literals that are true
	where   map[int][]int // the numbers of the clauses with a literal
	left    []int         // of each clause, how many literals are not false
	wait    waiting       // the clauses that have come to at most one literal left, and have not been looked at since
}

// begin returns the state before the first step.
func begin(f [][]int, a []int) *propagation {
	p := &propagation{clauses: f, holds: map[int]bool{}, where: map[int][]int{}, left: make([]int, len(f))}
	for _, lit := range a {
		p.holds[lit] = true
	}
	for i, c := range f {
		for _, lit := range c {
			p.where[lit] = append(p.where[lit], i)
			if !p.holds[-lit] {
				p.left[i]++
			}
		}
		if p.left[i] <= 1 {
			heap.Push(&p.wait, i)
		}
	}
	return p
}

// set makes an open literal true. Only clauses with its negation can become false or unit; a clause waits from its last literal but one on, so it never waits twice.
func (p *propagation) set(lit int) {
	p.holds[lit] = true
	for _, i := range p.where[-lit] {
		p.left[i]--
		if p.left[i] == 1 {
			heap.Push(&p.wait, i)
		}
	}
}

// remaining returns the first literal of a clause that is not false; 0: there is none.
func (p *propagation) remaining(i int) int {
	for _, lit := range p.clauses[i] {
		if !p.holds[-lit] {
			return lit
		}
	}
	return 0
}

// run goes on to the end, and returns the steps and the clause that is false (-1: none).
func (p *propagation) run() (l []api.Step, conflict int) {
	for p.wait.Len() > 0 {
		i := heap.Pop(&p.wait).(int)
		lit := p.remaining(i)
		if lit == 0 {
			return l, i
		}
		if !p.holds[lit] {
			l = append(l, api.Step{Lit: lit, Clause: i})
			p.set(lit)
		}
	}
	return l, -1
}

// Units returns what unit propagation finds, and the clause that is false (-1: none).
func Units(f [][]int, a []int) (l []api.Step, conflict int, e api.Errno) {
	if !lits.May(a) || !lits.MayCnf(f) {
		return nil, -1, api.ErrArg
	}
	l, conflict = begin(f, a).run()
	return l, conflict, api.OK
}

// Close returns the assignment behind unit propagation; false: a clause is false.
func Close(f [][]int, a []int) ([]int, bool, api.Errno) {
	l, conflict, e := Units(f, a)
	if e != api.OK || conflict >= 0 {
		return nil, false, e
	}
	all := make([]int, 0, len(a)+len(l))
	all = append(all, a...)
	for _, step := range l {
		all = append(all, step.Lit)
	}
	closed, e := lits.Norm(all)
	return closed, e == api.OK, e
}
