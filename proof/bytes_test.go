package proof_test

import (
	"bytes"
	"math"
	"runtime"
	"slices"
	"testing"

	"skolem/api"
	"skolem/proof"
)

// P10.3

// put holds Put against the definition, and Get against what it returns.
func put(t *testing.T, p api.Proof) []byte {
	t.Helper()
	b, e := proof.Put(p)
	if want, err := naivePut(p); !slices.Equal(b, want) || e != err {
		t.Errorf("Put(%v) = %v, %v, not %v, %v", p, b, e, want, err)
	}
	if q, e := proof.Get(b); !same(p, q) || e != api.OK {
		t.Errorf("Get(Put(%v)) = %v, %v", p, q, e)
	}
	return b
}

// got holds Get against the definition.
func got(t *testing.T, b []byte) (api.Proof, api.Errno) {
	t.Helper()
	p, e := proof.Get(b)
	if want, err := naiveGet(b); !same(p, want) || e != err {
		t.Errorf("Get(%v) = %v, %v, not %v, %v", b, p, e, want, err)
	}
	return p, e
}

// bytesOf returns the head of a proof and other bytes.
func bytesOf(b ...byte) []byte { return append([]byte{82, 80, 1}, b...) }

func TestPut(t *testing.T) {
	for name, c := range map[string]struct {
		p    api.Proof
		want []byte
	}{
		"no lines":           {api.Proof{}, bytesOf(0, 0)},
		"an empty list":      {api.Proof{Lines: []api.Line{}}, bytesOf(0, 0)},
		"cubes":              {api.Proof{Cubes: true}, bytesOf(1, 0)},
		"a line of zeros":    {proofOf(api.Line{}), bytesOf(0, 2, 0, 0, 0, 0, 0)},
		"the last rule":      {proofOf(api.Line{Rule: 255}), bytesOf(0, 2, 255, 0, 0, 0, 0)},
		"a reduction":        {api.Proof{Cubes: true, Lines: []api.Line{{Rule: api.RuReduce, A: 1, B: -1, Piv: 2, Lits: []int{-3}}}}, bytesOf(1, 2, 3, 2, 1, 4, 2, 5)},
		"two lines":          {proofOf(input(0, 1, -2), resolve(0, 1, 2)), bytesOf(0, 4, 1, 0, 0, 0, 4, 2, 3, 2, 0, 2, 4, 0)},
		"the order of parts": {proofOf(api.Line{Rule: 9, A: 5, B: 6, Piv: 7, Lits: []int{8, 4}}), bytesOf(0, 2, 9, 10, 12, 14, 4, 16, 8)},
		"numbers of lines":   {proofOf(resolve(63, 64, 65536, 8192, -8193)), bytesOf(0, 2, 2, 126, 128, 1, 128, 128, 8, 4, 128, 128, 1, 129, 128, 1)},
	} {
		if b := put(t, c.p); !slices.Equal(b, c.want) {
			t.Errorf("%s: %v", name, b)
		}
		if p, e := got(t, c.want); !same(p, c.p) || e != api.OK {
			t.Errorf("%s: %v, %v", name, p, e)
		}
	}
}

// TestNumbers: one line with each number in each of its places.
func TestNumbers(t *testing.T) {
	for v, want := range map[int][]byte{
		0: {0}, -1: {1}, 1: {2}, -2: {3}, 2: {4}, 63: {126}, -64: {127}, 64: {128, 1}, -65: {129, 1}, 65: {130, 1}, -66: {131, 1}, 128: {128, 2}, 8191: {254, 127}, -8192: {255, 127}, 8192: {128, 128, 1}, -8193: {129, 128, 1},
		1 << 20: {128, 128, 128, 1}, 65536: {128, 128, 8}, -65536: {255, 255, 7}, 1 << 62: {128, 128, 128, 128, 128, 128, 128, 128, 128, 1}, 1<<62 - 1: {254, 255, 255, 255, 255, 255, 255, 255, 127}, -1 << 62: {255, 255, 255, 255, 255, 255, 255, 255, 127}, -1<<62 - 1: {129, 128, 128, 128, 128, 128, 128, 128, 128, 1},
		math.MaxInt: {254, 255, 255, 255, 255, 255, 255, 255, 255, 1}, math.MinInt: {255, 255, 255, 255, 255, 255, 255, 255, 255, 1}, math.MinInt + 1: {253, 255, 255, 255, 255, 255, 255, 255, 255, 1},
	} {
		for place, l := range []api.Line{{A: v}, {B: v}, {Piv: v}, {Lits: []int{v}}, {Lits: []int{5, v}}} {
			b := bytesOf(0, 2, 0)
			zeros := []byte{0, 0, 0, 0}
			switch place {
			case 0, 1, 2:
				b = slices.Concat(b, zeros[:place], want, zeros[place+1:])
			case 3:
				b = slices.Concat(b, zeros[:3], []byte{2}, want)
			case 4:
				b = slices.Concat(b, zeros[:3], []byte{4, 10}, want)
			}
			if is := put(t, proofOf(l)); !slices.Equal(is, b) {
				t.Errorf("%v: %v, not %v", l, is, b)
			}
			if p, e := got(t, b); !same(p, proofOf(l)) || e != api.OK {
				t.Errorf("%v: %v, %v", b, p, e)
			}
		}
	}
	for shift := range 64 { // all lengths of numbers, on both sides of each
		for d := -2; d <= 2; d++ {
			v := 1<<shift + d
			put(t, proofOf(api.Line{A: v, B: -v, Piv: ^v, Lits: []int{v, -v, ^v, ^-v}}))
		}
	}
}

// TestNoForm: bytes that no proof has.
func TestNoForm(t *testing.T) {
	nine := bytes.Repeat([]byte{255}, 9)
	for name, b := range map[string][]byte{
		"nothing": nil, "an empty list": {}, "one letter": {82}, "two letters": {82, 80}, "no more than the head": {82, 80, 1}, "no number of lines": bytesOf(0), "the head is missing": {0, 0},
		"the first letter is another": {81, 80, 1, 0, 0}, "the second one is": {82, 81, 1, 0, 0}, "the third byte is": {82, 80, 0, 0, 0}, "another version": {82, 80, 2, 0, 0}, "letters exchanged": {80, 82, 1, 0, 0}, "small letters": {114, 112, 1, 0, 0}, "a letter in front": {82, 82, 80, 1, 0, 0},
		"Cubes is 2": bytesOf(2, 0), "Cubes is 255": bytesOf(255, 0), "Cubes is 128": bytesOf(128, 0), "Cubes is 129 and 0": bytesOf(129, 0, 0),
		"a number of lines that is negative": bytesOf(0, 1), "one that is -2": bytesOf(0, 3, 0, 0, 0, 0, 0), "the least number of lines": slices.Concat(bytesOf(0), nine, []byte{1}), "the greatest one": slices.Concat(bytesOf(0, 254), nine[1:], []byte{1}),
		"a line is missing": bytesOf(0, 2), "the second line is missing": bytesOf(0, 4, 0, 0, 0, 0, 0), "a line too many": bytesOf(0, 0, 0, 0, 0, 0, 0), "a line ends early": bytesOf(0, 2, 1, 0, 0, 0), "after its rule": bytesOf(0, 2, 1), "in a number": bytesOf(0, 2, 1, 0, 0, 128), "in a literal": bytesOf(0, 2, 1, 0, 0, 0, 2, 128), "in a number of lines": bytesOf(0, 128),
		"a byte left over": bytesOf(0, 0, 0), "a byte left over behind a line": bytesOf(0, 2, 0, 0, 0, 0, 0, 0), "many of them": append(bytesOf(0, 0), nine...),
		"Lits are missing": bytesOf(0, 2, 0, 0, 0, 0, 2), "one of two is": bytesOf(0, 2, 0, 0, 0, 0, 4, 1), "a number of Lits that is negative": bytesOf(0, 2, 0, 0, 0, 0, 1), "that is -1, with one": bytesOf(0, 2, 0, 0, 0, 0, 1, 7), "the least one": slices.Concat(bytesOf(0, 2, 0, 0, 0, 0), nine, []byte{1}), "the greatest one of Lits": slices.Concat(bytesOf(0, 2, 0, 0, 0, 0, 254), nine[1:], []byte{1}), "more Lits than an address": bytesOf(0, 2, 0, 0, 0, 0, 128, 128, 128, 128, 128, 128, 128, 128, 1),
		"the next line is taken for Lits": bytesOf(0, 4, 0, 0, 0, 0, 2, 0, 0, 0, 0, 0),
		"a group of 0 behind 0":           bytesOf(0, 128, 0), "a group of 0 behind 1": bytesOf(0, 129, 0), "two groups of 0": bytesOf(0, 128, 128, 0), "in A": bytesOf(0, 2, 0, 130, 0, 0, 0, 0), "in B": bytesOf(0, 2, 0, 0, 130, 0, 0, 0), "in Piv": bytesOf(0, 2, 0, 0, 0, 130, 0, 0), "in the number of Lits": bytesOf(0, 2, 0, 0, 0, 0, 128, 0), "in Lits": bytesOf(0, 2, 0, 0, 0, 0, 2, 130, 0), "in ten groups": slices.Concat(bytesOf(0, 2, 0), nine, []byte{0, 0, 0, 0}),
		"a number of 65 bits": slices.Concat(bytesOf(0, 2, 0), nine, []byte{2, 0, 0, 0}), "all bits and one more": slices.Concat(bytesOf(0, 2, 0), nine, []byte{3, 0, 0, 0}), "of 70 bits": slices.Concat(bytesOf(0, 2, 0), nine, []byte{127, 0, 0, 0}), "of 71 bits": slices.Concat(bytesOf(0, 2, 0), nine, []byte{129, 1, 0, 0, 0}), "of eleven groups, 0 at the end": slices.Concat(bytesOf(0, 2, 0), nine, []byte{129, 0, 0, 0, 0}), "of 128 bits": slices.Concat(bytesOf(0, 2, 0), nine, nine, []byte{1, 0, 0, 0}), "of twenty groups of 0 and a 1": slices.Concat(bytesOf(0, 2, 0), bytes.Repeat([]byte{128}, 20), []byte{1, 0, 0, 0}), "no end of a number": slices.Concat(bytesOf(0, 2, 0), bytes.Repeat([]byte{128}, 5000)),
	} {
		if p, e := got(t, b); !isNothing(p) || e != api.ErrForm {
			t.Errorf("%s: %v, %v", name, p, e)
		}
	}
}

// TestAllBytes: all bytes as the one of Cubes, and as a rule.
func TestAllBytes(t *testing.T) {
	for x := range 256 {
		p, e := got(t, bytesOf(byte(x), 0))
		if (e == api.OK) != (x <= 1) || p.Cubes != (x == 1) {
			t.Errorf("Cubes %d: %v, %v", x, p, e)
		}
		p, e = got(t, bytesOf(0, 2, byte(x), 0, 0, 0, 0))
		if !same(p, proofOf(api.Line{Rule: api.Rule(x)})) || e != api.OK {
			t.Errorf("the rule %d: %v, %v", x, p, e)
		}
	}
}

// TestShortBytes holds Get against the definition for all short rows of some bytes behind the head.
func TestShortBytes(t *testing.T) {
	accepted := 0
	var try func(b []byte, more int, some []byte)
	try = func(b []byte, more int, some []byte) {
		if _, e := got(t, b); e == api.OK {
			accepted++
		}
		if more > 0 {
			for _, x := range some {
				try(append(slices.Clip(b), x), more-1, some)
			}
		}
	}
	try(nil, 4, []byte{82, 80, 1, 0, 2})
	try(bytesOf(), 4, []byte{0, 1, 2, 3, 4, 127, 128, 129, 130, 254, 255})
	try(bytesOf(0, 2, 1), 5, []byte{0, 1, 2, 3, 4, 128, 129})
	try(bytesOf(1, 4, 2, 0, 0, 0), 8, []byte{0, 2, 128})
	if accepted < 1000 {
		t.Errorf("%d are proofs", accepted)
	}
}

// TestSpoiltBytes holds Get against the definition for bytes of proofs that are spoilt at one or two places.
func TestSpoiltBytes(t *testing.T) {
	d := dice(106)
	accepted, refused := 0, 0
	for range 400 {
		p := d.joined(1 + d.below(12))
		p.Cubes = d.below(2) == 0
		for i := range p.Lines {
			p.Lines[i].Rule = api.Rule(d.odd())
		}
		b := put(t, p)
		for range 50 {
			c := slices.Clone(b)
			for range 1 + d.below(2) {
				i := d.below(len(c))
				switch d.below(6) {
				case 0:
					c = slices.Delete(c, i, i+1)
				case 1:
					c = slices.Insert(c, i, []byte{0, 1, 2, 128, 129, 255}[d.below(6)])
				case 2:
					c = slices.Insert(c, i, c[i])
				case 3:
					c[i] ^= 1 << d.below(8)
				case 4:
					c = c[:max(1, i)]
				default:
					c[i] = byte(d.below(256))
				}
			}
			if _, e := got(t, c); e == api.OK {
				accepted++
			} else {
				refused++
			}
		}
	}
	if accepted < 1000 || refused < 5000 {
		t.Errorf("%d are proofs, %d are not", accepted, refused)
	}
}

// TestAllBeginnings: no beginning of the bytes of a proof is one, and nothing can be appended.
func TestAllBeginnings(t *testing.T) {
	d := dice(107)
	for range 30 {
		b := put(t, d.joined(1+d.below(8)))
		for n := range b {
			if p, e := got(t, b[:n]); !isNothing(p) || e != api.ErrForm {
				t.Errorf("%d of %v: %v, %v", n, b, p, e)
			}
		}
		for x := range 256 {
			if p, e := proof.Get(append(slices.Clip(b), byte(x))); !isNothing(p) || e != api.ErrForm {
				t.Errorf("%v and %d: %v, %v", b, x, p, e)
			}
		}
	}
}

// TestBytesAtTheLimit: MaxLines lines, and one more.
func TestBytesAtTheLimit(t *testing.T) {
	lines := slices.Repeat([]api.Line{input(70000, 1, -70000)}, 1000001)
	for _, n := range []int{999999, 1000000} {
		b, e := proof.Put(proofOf(lines[:n]...))
		if len(b) != 3+1+3+n*11 || e != api.OK {
			t.Fatalf("%d lines: %d bytes, %v", n, len(b), e)
		}
		if p, e := proof.Get(b); !same(p, proofOf(lines[:n]...)) || e != api.OK {
			t.Errorf("%d lines: %d, %v", n, len(p.Lines), e)
		}
		if p, e := proof.Get(b[:len(b)-1]); !isNothing(p) || e != api.ErrForm {
			t.Errorf("%d lines without a byte: %d, %v", n, len(p.Lines), e)
		}
		// One line more, in the number and in the lines.
		b = slices.Concat(bytesOf(0), naiveNumber(n+1), b[7:], b[7:18])
		if p, e := proof.Get(b); e == api.OK != (n < 1000000) || len(p.Lines) != 0 && len(p.Lines) != n+1 {
			t.Errorf("%d lines and one more: %d, %v", n, len(p.Lines), e)
		}
	}
	for _, p := range []api.Proof{proofOf(lines...), {Cubes: true, Lines: lines}, proofOf(make([]api.Line, 1000001)...)} {
		if b, e := proof.Put(p); len(b) != 0 || e != api.ErrLong {
			t.Errorf("one line more: %d bytes, %v", len(b), e)
		}
	}
	long := input(3, slices.Repeat([]int{-1}, 300000)...) // Lits are not limited
	if b := put(t, proofOf(long, input(4))); len(b) != 3+1+1+4+3+300000+5 {
		t.Errorf("%d bytes", len(b))
	}
}

// TestRoomForCounts: numbers of lines and Lits for which there are no bytes take no memory.
func TestRoomForCounts(t *testing.T) {
	for _, n := range []int{100000, 1000000, 1 << 30, 1 << 40} {
		for _, b := range [][]byte{slices.Concat(bytesOf(0), naiveNumber(n), []byte{1, 0, 0, 0, 0}), slices.Concat(bytesOf(0, 2, 0, 0, 0, 0), naiveNumber(n), []byte{1, 2, 3})} {
			var before, after runtime.MemStats
			runtime.ReadMemStats(&before)
			p, e := proof.Get(b)
			runtime.ReadMemStats(&after)
			if !isNothing(p) || e != api.ErrForm || after.TotalAlloc-before.TotalAlloc > 1<<16 {
				t.Errorf("%d: %v, %v, %d bytes", n, p, e, after.TotalAlloc-before.TotalAlloc)
			}
		}
	}
}
