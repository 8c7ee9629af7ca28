package qcir

import (
	"slices"

	"skolem/api"
	"skolem/circ"
)

// reader reads the lines of a text one after the other, and keeps what they mean.
type reader struct {
	before   form         // of the last line that is not empty
	there    map[int]bool // the variables that lines have introduced
	inputs   []int        // those of free and block lines
	literals int          // how many there are in gate lines
	net      api.Net
	at       []int // the numbers of the output line and of the gate lines
}

// read reads all lines of a text; with an error, it returns the number of the line that has it.
func (r *reader) read(s string) (at int, e api.Errno) {
reading:
	for n, text := range lines(s) {
		l := parse(text)
		e = r.check(l)
		switch {
		case e != api.OK:
			at = n
			break reading
		case l.form == empty:
			continue reading
		case l.form == outputLine:
			r.net.Out = l.lits[0]
			r.at = append(r.at, n)
		case l.form == gateLine:
			r.net.Gates = append(r.net.Gates, api.Gate{Var: l.vars[0], Kind: l.kind, In: l.lits})
			r.literals += len(l.lits)
			r.at = append(r.at, n)
		default:
			r.quantify(l)
		}
		r.before = l.form
	}
	return at, e
}

// mayCome reports whether a line of a form may come next.
func (r *reader) mayCome(f form) bool {
	switch f {
	case empty:
		return true
	case freeLine:
		return r.before == empty
	case blockLine, outputLine:
		return r.before <= blockLine
	case gateLine:
		return r.before >= outputLine
	}
	return false
}

// enter notes variables; false: one of them has been there.
func (r *reader) enter(vars []int) bool {
	for _, v := range vars {
		if r.there[v] {
			return false
		}
		r.there[v] = true
	}
	return true
}

// check returns the error of the next line, and notes the variables that it introduces.
func (r *reader) check(l line) api.Errno {
	switch {
	case !r.mayCome(l.form):
		return api.ErrForm
	case !l.fits():
		return api.ErrArg
	case !r.enter(l.vars):
		return api.ErrThere
	case l.form != gateLine && len(r.inputs)+len(l.vars) > api.MaxQuant:
		return api.ErrLong
	case l.form == gateLine && r.literals+len(l.lits) > api.MaxLits:
		return api.ErrLong
	}
	return api.OK
}

// quantify takes the variables of a free or block line into the prefix.
func (r *reader) quantify(l line) {
	r.inputs = append(r.inputs, l.vars...)
	last := len(r.net.Prefix) - 1
	switch {
	case len(l.vars) == 0:
	case last >= 0 && r.net.Prefix[last].Exists == l.exists:
		r.net.Prefix[last].Vars = append(r.net.Prefix[last].Vars, l.vars...)
	default:
		r.net.Prefix = append(r.net.Prefix, api.Block{Exists: l.exists, Vars: l.vars})
	}
}

// areThere reports whether all literals are of variables that lines have introduced.
func (r *reader) areThere(lits []int) bool {
	return !slices.ContainsFunc(lits, func(lit int) bool { return !r.there[max(lit, -lit)] })
}

// ordered returns the net of the lines, with its gates in order, or the error that they have as a whole, and its line.
func (r *reader) ordered() (n api.Net, line int, e api.Errno) {
	if r.before < outputLine {
		return api.Net{}, 0, api.ErrForm
	}
	if !r.areThere([]int{r.net.Out}) {
		return api.Net{}, r.at[0], api.ErrNone
	}
	for i, g := range r.net.Gates {
		if !r.areThere(g.In) {
			return api.Net{}, r.at[i+1], api.ErrNone
		}
	}
	n = r.net
	n.Gates, e = circ.Order(r.inputs, n.Gates)
	if e != api.OK {
		return api.Net{}, 0, e
	}
	return n, 0, api.OK
}
