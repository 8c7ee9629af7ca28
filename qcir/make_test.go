package qcir_test

import (
	"math"
	"slices"
	"strconv"
	"strings"

	"skolem/api"
)

// What the tests try: nets and texts of many sorts.

// oddInts are integers at the ends of what a variable, a literal and an int can be.
var oddInts = []int{math.MinInt, math.MinInt + 1, -65537, -65536, -2, -1, 0, 1, 2, 65535, 65536, 65537, math.MaxInt}

// variables returns from, from + 1, .. to.
func variables(from, to int) []int {
	var l []int
	for v := from; v <= to; v++ {
		l = append(l, v)
	}
	return l
}

// divided returns the text whose lines are divided by /.
func divided(s string) string { return strings.ReplaceAll(s, "/", "\n") }

// sequences returns all texts that are made of at most n of some parts, with a beginning in front.
func sequences(begin string, n int, parts ...string) []string {
	texts := []string{begin}
	for from := 0; n > 0; n-- {
		to := len(texts)
		for _, s := range texts[from:to] {
			for _, part := range parts {
				texts = append(texts, s+part)
			}
		}
		from = to
	}
	return texts
}

// dice is a sequence of numbers that look like random ones, the same at each run.
type dice uint64

func (d *dice) below(n int) int {
	*d = *d*6364136223846793005 + 1442695040888963407
	return int(uint64(*d) >> 33 % uint64(n))
}

// mixed returns the elements of a list in any order.
func mixed[E any](d *dice, l []E) []E {
	l = slices.Clone(l)
	for i := range l {
		j := d.below(i + 1)
		l[i], l[j] = l[j], l[i]
	}
	return l
}

// names returns n variables in any order, small ones or great ones.
func (d *dice) names(n int) []int {
	l := variables(1, n+d.below(4))
	if d.below(4) == 0 {
		for i := range l {
			l[i] = 65537 - l[i]
		}
	}
	return mixed(d, l)[:n]
}

// gate returns a gate over some variables (none: one without literals).
func (d *dice) gate(v int, over []int) api.Gate {
	g := api.Gate{Var: v, Kind: api.GateKind(1 + d.below(4))}
	n := d.below(5)
	switch {
	case len(over) == 0:
		g.Kind = api.GateKind(1 + d.below(2))
		return g
	case g.Kind == api.GateXor:
		n = 2
	case g.Kind == api.GateIte:
		n = 3
	}
	for range n {
		g.In = append(g.In, d.literal(over))
	}
	return g
}

func (d *dice) literal(over []int) int {
	return over[d.below(len(over))] * (1 - 2*d.below(2))
}

// net returns a valid net of at most some variables in the prefix, and gates.
func (d *dice) net(inputs, gates int) api.Net {
	i, k := d.below(inputs+1), d.below(gates+1)
	if i+k == 0 {
		k = 1
	}
	names := d.names(i + k)
	var n api.Net
	exists := d.below(2) == 0
	for l := names[:i:i]; len(l) > 0; exists = !exists {
		k := 1 + d.below(min(3, len(l)))
		n.Prefix = append(n.Prefix, api.Block{Exists: exists, Vars: l[:k:k]})
		l = l[k:]
	}
	for j := i; j < i+k; j++ {
		n.Gates = append(n.Gates, d.gate(names[j], names[:j]))
	}
	n.Out = d.literal(names)
	return n
}

// lines returns the lines of a text, each a list of tokens: those of a net in another form, whose gates are in any order and may use each other in a circle.
func (d *dice) lines() [][]string {
	n := d.net(6, 6)
	var texts []string
	blocks := 0
	for _, b := range n.Prefix {
		for l := b.Vars; len(l) > 0; blocks++ { // a block may be that of several lines
			k := 1 + d.below(len(l))
			word := map[bool]string{true: "exists", false: "forall"}[b.Exists]
			if blocks == 0 && b.Exists && d.below(2) == 0 {
				word = "free"
			}
			texts = append(texts, word+listOf(l[:k]))
			l = l[k:]
			if d.below(6) == 0 {
				texts = append(texts, []string{"exists()", "forall()"}[d.below(2)])
			}
		}
	}
	texts = append(texts, "output("+strconv.Itoa(n.Out)+")")
	if d.below(3) == 0 && len(n.Gates) > 0 {
		n.Gates[0] = d.gate(n.Gates[0].Var, []int{n.Gates[0].Var, n.Gates[len(n.Gates)-1].Var, max(n.Out, -n.Out)})
	}
	for _, g := range mixed(d, n.Gates) {
		texts = append(texts, strconv.Itoa(g.Var)+"="+naiveWords[g.Kind]+listOf(g.In))
	}
	var lines [][]string
	for _, text := range texts {
		lines = append(lines, tokens.FindAllString(text, -1))
	}
	return lines
}

// strange are tokens, most of which are wrong in most places.
var strange = []string{"free", "exists", "forall", "output", "and", "or", "xor", "ite", "(", ")", ",", "=", "-", "1", "2", "7", "65536", "65537", "0", "01", "00", "99999999999999999999", "12", "x", "andx", "And", "#", "\t", "\r", "+", ".", "\x00", "\xff", "é", "1 2", "- -", "()", ",,"}

// spoil changes lines at one place.
func (d *dice) spoil(lines [][]string) [][]string {
	lines = slices.Clone(lines)
	if len(lines) == 0 {
		return lines
	}
	i, j := d.below(len(lines)), d.below(len(lines))
	words := slices.Clone(lines[i])
	switch k := d.below(10); {
	case k == 0:
		return slices.Delete(lines, i, i+1)
	case k == 1:
		return slices.Insert(lines, i, lines[j])
	case k == 2:
		lines[i], lines[j] = lines[j], lines[i]
		return lines
	case k == 3 && len(words) > 3: // one element more, or less
		at := d.below(len(words)-3) + 3
		if words[at] == "," && d.below(2) == 0 {
			words = slices.Delete(words, at, min(at+2, len(words)))
		} else {
			words = slices.Insert(words, at, "1", ",")
		}
	case k < 5:
		words = slices.Insert(words, d.below(len(words)+1), strange[d.below(len(strange))])
	case k == 5 && len(words) > 0:
		at := d.below(len(words))
		words = slices.Delete(words, at, at+1)
	case len(words) > 0: // an own variable, or that of a line next to it
		w := strange[d.below(len(strange))]
		if d.below(2) == 0 {
			w = strconv.Itoa(1 + d.below(12))
		}
		words[d.below(len(words))] = w
	}
	lines[i] = words
	return lines
}

// written returns the text of lines, with spaces, comments and blank lines at any places.
func (d *dice) written(lines [][]string) string {
	space := func() string { return []string{"", " ", "  "}[max(0, d.below(8)-5)] }
	var s []string
	for _, words := range lines {
		for d.below(8) == 0 {
			s = append(s, []string{"", " ", "   ", "#", "# output(1)", "#\t\r\xff 0 01"}[d.below(6)])
		}
		line := space()
		for _, w := range words {
			line += w + space()
		}
		s = append(s, line)
	}
	return strings.Join(s, "\n") + []string{"\n", "\n", "", "\n\n", "\n ", "\n#", "\n# \n"}[d.below(7)]
}
