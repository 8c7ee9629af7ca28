package sat

// order is a heap of variables by their scores, the greatest one on top. Scores are integers, so that they are the same on all machines.
type order struct {
	heap   []int
	at     []int // the place of a variable in the heap; none: it is not there
	scores []uint64
	bonus  uint64    // what a variable gets for a conflict; it grows, so that late conflicts count for more
	likely []literal // the values that variables had last
}

const (
	firstBonus = 1 << 16
	mostBonus  = 1 << 56 // a score is less than some twenty times the last bonus
)

func newOrder(vars int) order {
	o := order{at: make([]int, vars), scores: make([]uint64, vars), likely: make([]literal, vars), bonus: firstBonus}
	for v := range vars {
		o.at[v] = none
		o.likely[v] = literal(2*v + 1)
	}
	return o
}

// before reports whether a variable must not be below another one.
func (o *order) before(v, w int) bool { return o.scores[v] > o.scores[w] }

func (o *order) put(v, i int) { o.heap[i], o.at[v] = v, i }

// rise moves a variable up from a place to where it belongs.
func (o *order) rise(v, i int) {
	for i > 0 {
		above := (i - 1) / 2
		if !o.before(v, o.heap[above]) {
			break
		}
		o.put(o.heap[above], i)
		i = above
	}
	o.put(v, i)
}

// sink moves a variable down from a place to where it belongs.
func (o *order) sink(v, i int) {
	for {
		below := 2*i + 1
		if below >= len(o.heap) {
			break
		}
		if below+1 < len(o.heap) && o.before(o.heap[below+1], o.heap[below]) {
			below++
		}
		if !o.before(o.heap[below], v) {
			break
		}
		o.put(o.heap[below], i)
		i = below
	}
	o.put(v, i)
}

// push puts a variable into the heap, unless it is there.
func (o *order) push(v int) {
	if o.at[v] == none {
		o.heap = append(o.heap, v)
		o.rise(v, len(o.heap)-1)
	}
}

// pop takes the variable with the greatest score out.
func (o *order) pop() int {
	top, last := o.heap[0], o.heap[len(o.heap)-1]
	o.heap = o.heap[:len(o.heap)-1]
	o.at[top] = none
	if last != top {
		o.sink(last, 0)
	}
	return top
}

// reward gives a variable the bonus.
func (o *order) reward(v int) {
	o.scores[v] += o.bonus
	if o.at[v] != none {
		o.rise(v, o.at[v])
	}
}

// age makes later rewards count for more than those so far.
func (o *order) age() {
	o.bonus += o.bonus / 16
	if o.bonus > mostBonus {
		o.bonus /= mostBonus / firstBonus
		for v := range o.scores {
			o.scores[v] /= mostBonus / firstBonus
		}
	}
}
