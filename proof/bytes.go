package proof

import (
	"bytes"

	"skolem/api"
)

// head is how the bytes of each proof begin.
const head = "RP\x01"

// Put returns the bytes of a proof.
func Put(p api.Proof) ([]byte, api.Errno) {
	if len(p.Lines) > api.MaxLines {
		return nil, api.ErrLong
	}
	out := []byte(head)
	put := func(numbers ...int) {
		for _, v := range numbers {
			out = appendNumber(out, v)
		}
	}
	cubes := byte(0)
	if p.Cubes {
		cubes = 1
	}
	out = append(out, cubes)
	put(len(p.Lines))
	for _, l := range p.Lines {
		out = append(out, byte(l.Rule))
		put(l.A, l.B, l.Piv, len(l.Lits))
		put(l.Lits...)
	}
	return out, api.OK
}

// appendNumber appends the groups of a number.
func appendNumber(out []byte, v int) []byte {
	u := uint64(v) << 1
	if v < 0 {
		u = ^u // -2 v - 1
	}
	for ; u >= 128; u >>= 7 {
		out = append(out, byte(u)|128)
	}
	return append(out, byte(u))
}

// Get returns the proof whose bytes they are.
func Get(b []byte) (p api.Proof, e api.Errno) {
	defer func() {
		if stop, ok := recover().(api.Errno); ok {
			p, e = api.Proof{}, stop
		}
	}()
	must(bytes.HasPrefix(b, []byte(head)))
	r := reader(b[len(head):])
	cubes := r.next()
	must(cubes <= 1)
	p.Cubes = cubes == 1
	n := r.count(leastLine)
	must(n <= api.MaxLines)
	p.Lines = make([]api.Line, n)
	for i := range p.Lines {
		p.Lines[i] = r.line()
	}
	must(len(r) == 0)
	return p, api.OK
}

// leastLine is how many bytes a line takes at least: its rule, and four numbers.
const leastLine = 5

// must ends the reading if something does not hold.
func must(holds bool) {
	if !holds {
		panic(api.ErrForm)
	}
}

// reader has the bytes that are still to be read. Where it cannot go on, it panics.
type reader []byte

// next reads a byte.
func (r *reader) next() byte {
	must(len(*r) > 0)
	b := (*r)[0]
	*r = (*r)[1:]
	return b
}

// number reads a number, only as Put writes it.
func (r *reader) number() int {
	u := uint64(0)
	for shift := 0; ; shift += 7 {
		b := r.next()
		must(shift < 63 || b == 1) // of 64 bits, the tenth group has one
		u |= uint64(b&127) << shift
		if b < 128 {
			must(b > 0 || shift == 0)
			break
		}
	}
	if u&1 == 1 {
		return int(^(u >> 1))
	}
	return int(u >> 1)
}

// count reads how many parts follow, of so many bytes at least. More of them than there are bytes are not asked to be remembered.
func (r *reader) count(least int) int {
	n := r.number()
	must(n >= 0 && n <= len(*r)/least)
	return n
}

// line reads a line.
func (r *reader) line() api.Line {
	l := api.Line{Rule: api.Rule(r.next())}
	l.A, l.B, l.Piv = r.number(), r.number(), r.number()
	l.Lits = make([]int, r.count(1))
	for i := range l.Lits {
		l.Lits[i] = r.number()
	}
	return l
}
