package qcir

import (
	"strings"

	"skolem/api"
)

// form is what a line looks like. Those of the lines of a net come in the order in which the lines do.
type form uint8

const (
	empty form = iota // blank, or a comment
	freeLine
	blockLine
	outputLine
	gateLine
	unreadable
)

// line is what a line says.
type line struct {
	form   form
	exists bool         // of a free or block line
	kind   api.GateKind // of a gate line
	vars   []int        // the variables that it introduces: those of a free or block line, or that of a gate
	lits   []int        // the literals that it uses: that of an output line, or those of a gate
}

// parse returns what a line says.
func parse(text string) line {
	if strings.HasPrefix(text, "#") || strings.Trim(text, " ") == "" {
		return line{}
	}
	s := scan(text)
	l := s.line()
	if s.wrong || s.rest != "" {
		return line{form: unreadable}
	}
	return l
}

// line reads the tokens of a line.
func (s *scanner) line() line {
	switch word := s.word(); word {
	case "free":
		return line{form: freeLine, exists: true, vars: s.list(s.number)}
	case blockWord(true), blockWord(false):
		return line{form: blockLine, exists: word == blockWord(true), vars: s.list(s.number)}
	case "output":
		l := line{form: outputLine, lits: s.list(s.literal)}
		s.must(len(l.lits) == 1)
		return l
	case "":
		return s.gate()
	}
	return line{form: unreadable}
}

// gate reads the tokens of a gate line.
func (s *scanner) gate() line {
	l := line{form: gateLine, vars: []int{s.number()}}
	s.must(s.sign("="))
	l.kind = kindOf(s.word())
	s.must(l.kind != api.NoGate)
	l.lits = s.list(s.literal)
	return l
}

// fits reports whether a line has as many literals as its kind asks for.
func (l line) fits() bool {
	switch l.kind {
	case api.GateXor:
		return len(l.lits) == 2
	case api.GateIte:
		return len(l.lits) == 3
	}
	return true
}
