package dimacs_test

import (
	"math"
	"slices"
	"strconv"
	"strings"

	"skolem/api"
)

// What the tests try: formulas and texts of many sorts.

// oddInts are integers at the ends of what a variable, a literal and an int can be.
var oddInts = []int{math.MinInt, math.MinInt + 1, -65537, -65536, -2, -1, 0, 1, 2, 65535, 65536, 65537, math.MaxInt}

// loose are clauses that are not normal.
var loose = [][]int{{0}, {1, 0}, {0, 1}, {2, 1}, {1, 1}, {1, -1}, {-1, 1}, {-2, -2}, {1, 3, 2}, {65537}, {-65537}, {1, 65537}, {math.MinInt}, {math.MaxInt}, {1, math.MinInt}}

// variables returns from, from + 1, .. to.
func variables(from, to int) []int {
	var l []int
	for v := from; v <= to; v++ {
		l = append(l, v)
	}
	return l
}

// dice is a sequence of numbers that look like random ones, the same at each run.
type dice uint64

func (d *dice) below(n int) int {
	*d = *d*6364136223846793005 + 1442695040888963407
	return int(uint64(*d) >> 33 % uint64(n))
}

// mixed returns the elements of a list in any order.
func (d *dice) mixed(l []int) []int {
	l = slices.Clone(l)
	for i := range l {
		j := d.below(i + 1)
		l[i], l[j] = l[j], l[i]
	}
	return l
}

// part returns a list without some elements.
func (d *dice) part(l []int) []int {
	return slices.DeleteFunc(slices.Clone(l), func(int) bool { return d.below(2) == 0 })
}

// clauses returns a CNF of some variables, which ascend.
func (d *dice) clauses(n int, vars []int) [][]int {
	var f [][]int
	for range d.below(n + 1) {
		c := d.part(vars)
		for i := range c {
			c[i] *= 1 - 2*d.below(2)
		}
		f = append(f, c)
	}
	return f
}

// qbf returns a valid Qbf of at most n variables.
func (d *dice) qbf(n int) api.Qbf {
	vars := d.part(variables(1, n))
	q := api.Qbf{Clauses: d.clauses(6, vars)}
	exists := d.below(2) == 0
	for l := d.mixed(vars); len(l) > 0; exists = !exists {
		k := 1 + d.below(min(4, len(l)))
		q.Prefix = append(q.Prefix, api.Block{Exists: exists, Vars: l[:k:k]})
		l = l[k:]
	}
	return q
}

// dqbf returns a valid Dqbf of at most n variables.
func (d *dice) dqbf(n int) api.Dqbf {
	vars := d.part(variables(1, n))
	out := api.Dqbf{Univ: d.part(vars), Clauses: d.clauses(6, vars)}
	for _, v := range vars {
		if !slices.Contains(out.Univ, v) {
			out.Exist = append(out.Exist, row(v, d.part(out.Univ)...))
		}
	}
	return out
}

// lines returns the lines of a text, each a list of words, which are as they must be, but for what some d lines name.
func (d *dice) lines(letters string) [][]string {
	v, c := d.below(8), d.below(4)
	lines := [][]string{{"p", "cnf", strconv.Itoa(v), strconv.Itoa(c)}}
	rest := d.mixed(variables(1, v))
	var univ []int
	for range d.below(5) {
		letter := letters[d.below(len(letters))]
		k := d.below(len(rest) + 1)
		if letter == 'd' && len(rest) > 0 {
			k = 1
		} else if letter == 'd' {
			continue
		}
		l := rest[:k:k]
		rest = rest[k:]
		if letter == 'a' {
			univ = append(univ, l...)
		} else if letter == 'd' {
			l = append(l, d.mixed(d.part(univ))...)
			if d.below(6) == 0 {
				l = append(l, 1+d.below(v))
			}
		}
		lines = append(lines, strings.Fields(lineOf([]string{string(letter)}, l...)))
	}
	for range c {
		var l []int
		for range d.below(5) {
			if v > 0 {
				l = append(l, (1+d.below(v))*(1-2*d.below(2)))
			}
		}
		lines = append(lines, strings.Fields(lineOf(nil, l...)))
	}
	return lines
}

// strange are words, most of which are wrong in most places.
var strange = []string{"0", "1", "2", "7", "8", "9", "-1", "-2", "-0", "00", "01", "+1", "-", "--1", "1-", "c", "cc", "p", "cnf", "a", "e", "d", "ae", "0\r", "\r", "x", "65536", "65537", "999999999", "-999999999", "1000000000", "\xff", "é"}

// spoil changes lines at one place.
func (d *dice) spoil(lines [][]string) [][]string {
	lines = slices.Clone(lines)
	if len(lines) == 0 || d.below(8) == 0 {
		return slices.Insert(lines, d.below(len(lines)+1), []string{strange[d.below(len(strange))], "0"})
	}
	i := d.below(len(lines))
	words := slices.Clone(lines[i])
	switch k := d.below(8); {
	case k == 0:
		return slices.Delete(lines, i, i+1)
	case k == 1:
		return slices.Insert(lines, i, lines[d.below(len(lines))])
	case k < 4 || len(words) == 0:
		words = slices.Insert(words, d.below(len(words)+1), strange[d.below(len(strange))])
	case k == 4:
		words = slices.Delete(words, len(words)-1, len(words))
	case k == 5:
		j := d.below(len(words))
		words = slices.Delete(words, j, j+1)
	default:
		words[d.below(len(words))] = strange[d.below(len(strange))]
	}
	lines[i] = words
	return lines
}

// written returns the text of lines, with spaces, tabs, comments and empty lines at any places.
func (d *dice) written(lines [][]string) string {
	space := func(least int) string {
		return []string{"", " ", "\t", "  ", " \t "}[max(least, d.below(12)-7)]
	}
	var s []string
	for _, words := range lines {
		for d.below(8) == 0 {
			s = append(s, space(0)+[]string{"", "c", "c 1 0", "c\tp cnf 1 1", " "}[d.below(5)])
		}
		line := space(0)
		for _, w := range words {
			line += w + space(1)
		}
		s = append(s, strings.TrimRight(line, " \t")+space(0))
	}
	return strings.Join(s, "\n") + []string{"\n", "\n", "", "\n\n", "\n \t", "\nc"}[d.below(6)]
}
