package sat

// step is a resolution with the clause of an origin, on a literal that is in what the chain has come to. The first step has no literal: the chain begins with its clause.
type step struct {
	origin int32
	on     literal
}

// origins tells how clauses came about. The origins below first are the inputs; each further one is a chain of steps, whose origins are below it. What the chains come to is not kept, since most of them are not needed at the end.
type origins struct {
	first int
	steps []step
	ends  []int // where the chains end in steps
}

// add returns the origin of what a chain comes to.
func (o *origins) add(chain []step) int32 {
	if len(chain) == 1 {
		return chain[0].origin
	}
	if len(o.steps)+len(chain) > mostSteps {
		panic(ending{})
	}
	o.steps = append(o.steps, chain...)
	o.ends = append(o.ends, len(o.steps))
	return int32(o.first + len(o.ends) - 1)
}

// chainOf returns the chain of an origin that is no input.
func (o *origins) chainOf(origin int) []step {
	i := origin - o.first
	from := 0
	if i > 0 {
		from = o.ends[i-1]
	}
	return o.steps[from:o.ends[i]]
}
