package lits

import (
	"strconv"

	"skolem/api"
)

// Text returns the text of a normal list.
func Text(l []int) (string, api.Errno) {
	if !May(l) {
		return "", api.ErrArg
	}
	var text []byte
	for i, lit := range l {
		if i > 0 {
			text = append(text, ' ')
		}
		text = strconv.AppendInt(text, int64(lit), 10)
	}
	return string(text), api.OK
}

// reader reads a normal list letter by letter.
type reader struct {
	list     []int
	before   int // the variable of the last literal of list
	minus    bool
	variable int // of the literal that is being read; 0: no digit yet
}

// take reads the next letter; false: no text of a normal list goes on like that.
func (r *reader) take(letter rune) bool {
	switch {
	case letter == ' ':
		return r.end()
	case letter == '-':
		if r.minus || r.variable > 0 {
			return false
		}
		r.minus = true
		return true
	case letter >= '0' && letter <= '9':
		r.variable = 10*r.variable + int(letter-'0')
		return r.variable > 0 && r.variable <= api.MaxVar // 0 is a leading zero, or no literal
	}
	return false
}

// end puts the literal that has been read into the list; it says no at once where the list stops being normal, so a long text takes no more memory than a normal list does.
func (r *reader) end() bool {
	if r.variable <= r.before {
		return false
	}
	lit := r.variable
	if r.minus {
		lit = -lit
	}
	r.list = append(r.list, lit)
	r.before, r.minus, r.variable = r.variable, false, 0
	return true
}

// Read returns the normal list of a text.
func Read(s string) ([]int, api.Errno) {
	if s == "" {
		return nil, api.OK
	}
	var r reader
	for _, letter := range s {
		if !r.take(letter) {
			return nil, api.ErrForm
		}
	}
	if !r.end() {
		return nil, api.ErrForm
	}
	return r.list, api.OK
}
