package qcir

import (
	"strconv"
	"strings"

	"skolem/api"
)

// scanner reads the tokens of a line from left to right.
type scanner struct {
	rest  string // what has not been read, without spaces in front
	wrong bool   // a token was not what it must be
}

func scan(text string) *scanner {
	s := &scanner{rest: text}
	s.skip(0)
	return s
}

// skip goes on behind some bytes, and behind the spaces that follow them.
func (s *scanner) skip(n int) {
	s.rest = strings.TrimLeft(s.rest[n:], " ")
}

// span reads as many bytes of a range as there are.
func (s *scanner) span(from, to byte) string {
	n := 0
	for n < len(s.rest) && from <= s.rest[n] && s.rest[n] <= to {
		n++
	}
	text := s.rest[:n]
	s.skip(n)
	return text
}

// word reads a word; "": the next token is none.
func (s *scanner) word() string { return s.span('a', 'z') }

// sign reads a token of one byte, if it is the next one.
func (s *scanner) sign(token string) bool {
	is := strings.HasPrefix(s.rest, token)
	if is {
		s.skip(len(token))
	}
	return is
}

// must notes that something is not as it must be.
func (s *scanner) must(ok bool) {
	if !ok {
		s.wrong = true
	}
}

// number reads a number, which must be the next token.
func (s *scanner) number() int {
	digits := s.span('0', '9')
	n, e := strconv.Atoi(digits)
	s.must(e == nil && digits[0] != '0' && n <= api.MaxVar)
	return n
}

// literal reads a literal.
func (s *scanner) literal() int {
	if s.sign("-") {
		return -s.number()
	}
	return s.number()
}

// list reads elements, each in the same way, and the brackets around them.
func (s *scanner) list(element func() int) []int {
	s.must(s.sign("("))
	if s.sign(")") {
		return nil
	}
	l := []int{element()}
	for !s.wrong && s.sign(",") {
		l = append(l, element())
	}
	s.must(s.sign(")"))
	return l
}
