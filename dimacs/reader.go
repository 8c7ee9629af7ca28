package dimacs

import (
	"iter"
	"slices"

	"skolem/api"
	"skolem/lits"
	"skolem/prefix"
)

// wrong is what a reader panics with: the line that is not as it must be, and the error.
type wrong struct {
	line int
	e    api.Errno
}

// role is what the prefix lines have made of a variable.
type role uint8

const (
	undeclared role = iota
	universal
	existential
)

// reader reads the lines of a text one after the other, and keeps what they mean.
type reader struct {
	deps     bool // whether there may be d lines
	line     int
	headed   bool
	greatest int // the header's number of variables
	wanted   int // the header's number of clause lines
	taken    int // how many of them have been read
	roles    []role
	latest   []int         // the line in which a literal was last: that of lit is at greatest + lit
	blocks   []api.Block   // of the prefix lines; where the variable of a d line stands makes no difference
	on       map[int][]int // what the variables of d lines depend on
	clauses  [][]int
	literals int // how many there are in clauses that are not left out
}

// read reads a whole text; on has the dependencies that d lines name.
func read(s string, deps bool) (q api.Qbf, on map[int][]int, line int, e api.Errno) {
	defer func() {
		if w, ok := recover().(wrong); ok {
			line, e = w.line, w.e
		}
	}()
	r := &reader{deps: deps, on: map[int][]int{}}
	for n, text := range lines(s) {
		r.line = n
		r.take(text)
	}
	r.must(r.headed && r.taken == r.wanted, api.ErrForm)
	q, e = r.qbf()
	return q, r.on, 0, e
}

// must ends the reading if something is not as it must be in the line.
func (r *reader) must(ok bool, e api.Errno) {
	if !ok {
		panic(wrong{r.line, e})
	}
}

// take reads a line.
func (r *reader) take(line string) {
	first := firstWord(line)
	switch {
	case first == "" || first == "c":
	case !r.headed:
		r.takeHeader(line)
	case first == "a":
		r.takeBlock(line, universal)
	case first == "e":
		r.takeBlock(line, existential)
	case first == "d" && r.deps:
		r.takeRow(line)
	default:
		r.takeClause(line)
	}
}

// number returns the number that a word must be.
func (r *reader) number(word string) int {
	n, ok := number(word)
	r.must(ok, api.ErrForm)
	return n
}

// numbers tells the numbers of a line from a word on, up to the 0 that must be its last word.
func (r *reader) numbers(line string, from int) iter.Seq[int] {
	return func(yield func(n int) bool) {
		ended := false
		for i, word := range words(line) {
			if i < from {
				continue
			}
			r.must(!ended, api.ErrForm)
			n := r.number(word)
			if n == 0 {
				ended = true
			} else if !yield(n) {
				return
			}
		}
		r.must(ended, api.ErrForm)
	}
}

// size returns a number of the header, which has a limit.
func (r *reader) size(word string, limit int) int {
	n := r.number(word)
	r.must(n >= 0 && n <= limit, api.ErrRange)
	return n
}

func (r *reader) takeHeader(line string) {
	found := 0
	for i, word := range words(line) {
		switch i {
		case 0:
			r.must(word == "p", api.ErrForm)
		case 1:
			r.must(word == "cnf", api.ErrForm)
		case 2:
			r.greatest = r.size(word, api.MaxVar)
		case 3:
			r.wanted = r.size(word, api.MaxClauses)
		}
		found++
	}
	r.must(found == 4, api.ErrForm)
	r.headed = true
	r.roles = make([]role, r.greatest+1)
	r.latest = make([]int, 2*r.greatest+1)
}

// mustBeVar ends the reading if a number of a prefix line is no variable of the header.
func (r *reader) mustBeVar(v int) {
	r.must(v >= 1 && v <= r.greatest, api.ErrRange)
}

// declare gives a variable its role.
func (r *reader) declare(v int, as role) {
	r.mustBeVar(v)
	r.must(r.roles[v] == undeclared, api.ErrThere)
	r.roles[v] = as
}

// again reports whether a literal has been in this line before.
func (r *reader) again(lit int) bool {
	i := r.greatest + lit
	before := r.latest[i] == r.line
	r.latest[i] = r.line
	return before
}

func (r *reader) takeBlock(line string, as role) {
	r.must(r.taken == 0, api.ErrForm)
	b := api.Block{Exists: as == existential}
	for v := range r.numbers(line, 1) {
		r.declare(v, as)
		b.Vars = append(b.Vars, v)
	}
	if len(b.Vars) > 0 { // an empty block means nothing, but a long text may have very many of them
		r.blocks = append(r.blocks, b)
	}
}

func (r *reader) takeRow(line string) {
	r.must(r.taken == 0, api.ErrForm)
	declared := 0
	var on []int
	for v := range r.numbers(line, 1) {
		if declared == 0 {
			r.declare(v, existential)
			declared = v
			continue
		}
		r.mustBeVar(v)
		r.must(r.roles[v] == universal, api.ErrNone)
		r.must(!r.again(v), api.ErrThere)
		on = append(on, v)
	}
	r.must(declared != 0, api.ErrForm)
	slices.Sort(on)
	r.on[declared] = on
	r.blocks = append(r.blocks, api.Block{Exists: true, Vars: []int{declared}})
}

func (r *reader) takeClause(line string) {
	r.must(r.taken < r.wanted, api.ErrForm)
	var l []int
	for lit := range r.numbers(line, 0) {
		v := lits.Var(lit)
		r.must(v != 0 && v <= r.greatest, api.ErrRange)
		if !r.again(lit) { // a line may repeat literals more often than Norm takes them
			l = append(l, lit)
		}
	}
	r.taken++
	c, e := lits.Norm(l)
	if e != api.OK { // both literals of a variable are in it
		return
	}
	r.literals += len(c)
	if r.literals <= api.MaxLits { // beyond that there is no formula, but a later line may have an error
		r.clauses = append(r.clauses, c)
	}
}

// qbf returns the Qbf of the lines.
func (r *reader) qbf() (api.Qbf, api.Errno) {
	if r.literals > api.MaxLits {
		return api.Qbf{}, api.ErrLong
	}
	p, e := prefix.Join(r.blocks)
	if e != api.OK {
		return api.Qbf{}, e
	}
	return prefix.Close(api.Qbf{Prefix: p, Clauses: r.clauses})
}
