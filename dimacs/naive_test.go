package dimacs_test

import (
	"maps"
	"regexp"
	"slices"
	"strconv"
	"strings"

	"skolem/api"
)

// The functions of this file follow the chapter's sentences word by word, without regard to time; the tests hold the package against them.

func all(v ...int) api.Block { return api.Block{Vars: v} }

func some(v ...int) api.Block { return api.Block{Exists: true, Vars: v} }

// qbf returns a Qbf of blocks and clauses.
func qbf(p []api.Block, f ...[]int) api.Qbf { return api.Qbf{Prefix: p, Clauses: f} }

func blocks(b ...api.Block) []api.Block { return b }

// dqbf returns a Dqbf of universal variables, rows and clauses.
func dqbf(univ []int, rows []api.Dep, f ...[]int) api.Dqbf {
	return api.Dqbf{Univ: univ, Exist: rows, Clauses: f}
}

func row(v int, on ...int) api.Dep { return api.Dep{Var: v, On: on} }

func rows(r ...api.Dep) []api.Dep { return r }

func ints(l ...int) []int { return l }

func sameLists(f, g [][]int) bool {
	return slices.EqualFunc(f, g, func(a, b []int) bool { return slices.Equal(a, b) })
}

func sameQbf(p, q api.Qbf) bool {
	sameBlock := func(x, y api.Block) bool { return x.Exists == y.Exists && slices.Equal(x.Vars, y.Vars) }
	return slices.EqualFunc(p.Prefix, q.Prefix, sameBlock) && sameLists(p.Clauses, q.Clauses)
}

func sameDqbf(c, d api.Dqbf) bool {
	sameRow := func(x, y api.Dep) bool { return x.Var == y.Var && slices.Equal(x.On, y.On) }
	return slices.Equal(c.Univ, d.Univ) && slices.EqualFunc(c.Exist, d.Exist, sameRow) && sameLists(c.Clauses, d.Clauses)
}

// isNothing reports whether results are zero, as they must be together with an error.
func isNothing(q api.Qbf) bool { return q.Prefix == nil && q.Clauses == nil }

func isNoDqbf(d api.Dqbf) bool { return d.Univ == nil && d.Exist == nil && d.Clauses == nil }

// textOf returns lines, each one with a line feed at its end.
func textOf(lines ...string) string {
	return strings.Join(append(slices.Clone(lines), ""), "\n")
}

// lineOf returns words with a space between two of them.
func lineOf(words []string, numbers ...int) string {
	l := slices.Clone(words)
	for _, n := range numbers {
		l = append(l, strconv.Itoa(n))
	}
	return strings.Join(append(l, "0"), " ")
}

func naiveWrite(q api.Qbf) string {
	var vars []int
	var lines []string
	for _, b := range q.Prefix {
		vars = append(vars, b.Vars...)
		lines = append(lines, lineOf([]string{map[bool]string{true: "e", false: "a"}[b.Exists]}, b.Vars...))
	}
	return naiveText(vars, lines, q.Clauses)
}

func naiveWriteDeps(d api.Dqbf) string {
	vars := slices.Clone(d.Univ)
	var lines []string
	if len(d.Univ) > 0 {
		lines = append(lines, lineOf([]string{"a"}, d.Univ...))
	}
	for _, r := range d.Exist {
		vars = append(vars, r.Var)
		lines = append(lines, lineOf([]string{"d", strconv.Itoa(r.Var)}, r.On...))
	}
	return naiveText(vars, lines, d.Clauses)
}

func naiveText(vars []int, prefixLines []string, f [][]int) string {
	greatest := slices.Max(append(slices.Clone(vars), 0))
	lines := append([]string{"p cnf " + strconv.Itoa(greatest) + " " + strconv.Itoa(len(f))}, prefixLines...)
	for _, c := range f {
		lines = append(lines, lineOf(nil, c...))
	}
	return textOf(lines...)
}

// parsed is what the lines of a text are.
type parsed struct {
	deps    bool
	v, c    int
	header  bool
	letters []string // of the prefix lines
	numbers [][]int  // of these, without 0
	clauses [][]int  // the clause lines, without 0
}

var isNumber = regexp.MustCompile(`^(0|-?[1-9][0-9]{0,8})$`)

// row checks words that are numbers with a 0 at the end; check returns the error of a number, which is not 0.
func (p *parsed) row(words []string, check func(n int) api.Errno) ([]int, api.Errno) {
	var l []int
	for i, w := range words {
		if !isNumber.MatchString(w) {
			return nil, api.ErrForm
		}
		n, _ := strconv.Atoi(w)
		if n == 0 && i == len(words)-1 {
			return l, api.OK
		}
		if n == 0 {
			return nil, api.ErrForm
		}
		if e := check(n); e != api.OK {
			return nil, e
		}
		l = append(l, n)
	}
	return nil, api.ErrForm
}

// declared returns the variables that the prefix lines so far declare with one of some letters.
func (p *parsed) declared(letters string) []int {
	var l []int
	for i, letter := range p.letters {
		if !strings.Contains(letters, letter) {
			continue
		}
		if letter == "d" {
			l = append(l, p.numbers[i][0])
		} else {
			l = append(l, p.numbers[i]...)
		}
	}
	return l
}

func (p *parsed) prefixLine(words []string) api.Errno {
	if len(p.clauses) > 0 {
		return api.ErrForm
	}
	var own []int
	l, e := p.row(words[1:], func(n int) api.Errno {
		on := words[0] == "d" && len(own) > 0
		switch {
		case n < 1 || n > p.v:
			return api.ErrRange
		case on && !slices.Contains(p.declared("a"), n):
			return api.ErrNone
		case on && slices.Contains(own[1:], n):
			return api.ErrThere
		case !on && slices.Contains(append(p.declared("aed"), own...), n):
			return api.ErrThere
		}
		own = append(own, n)
		return api.OK
	})
	if e == api.OK && words[0] == "d" && len(l) == 0 {
		e = api.ErrForm
	}
	if e == api.OK {
		p.letters, p.numbers = append(p.letters, words[0]), append(p.numbers, l)
	}
	return e
}

func (p *parsed) headerLine(words []string) api.Errno {
	for i, w := range append(words, "?") {
		switch {
		case i < 2 && w != []string{"p", "cnf"}[i], (i == 2 || i == 3) && !isNumber.MatchString(w):
			return api.ErrForm
		case i == 4 && w == "?" && len(words) == 4:
			p.header = true
			return api.OK
		case i >= 4:
			return api.ErrForm
		}
		n, _ := strconv.Atoi(w)
		if i >= 2 && (n < 0 || n > []int{65536, 20000}[i-2]) {
			return api.ErrRange
		}
		if i == 2 {
			p.v = n
		}
		if i == 3 {
			p.c = n
		}
	}
	return api.ErrForm
}

func (p *parsed) line(words []string) api.Errno {
	switch {
	case len(words) == 0 || words[0] == "c":
		return api.OK
	case !p.header:
		return p.headerLine(words)
	case words[0] == "a" || words[0] == "e" || words[0] == "d" && p.deps:
		return p.prefixLine(words)
	case len(p.clauses) == p.c:
		return api.ErrForm
	}
	c, e := p.row(words, func(n int) api.Errno {
		if max(n, -n) > p.v {
			return api.ErrRange
		}
		return api.OK
	})
	if e == api.OK {
		p.clauses = append(p.clauses, c)
	}
	return e
}

// parse returns what a text is, or the line and the error.
func parse(s string, deps bool) (parsed, int, api.Errno) {
	p := parsed{deps: deps}
	for i, l := range strings.Split(s, "\n") {
		words := strings.FieldsFunc(l, func(r rune) bool { return r == ' ' || r == '\t' })
		if e := p.line(words); e != api.OK {
			return p, i + 1, e
		}
	}
	if !p.header || len(p.clauses) < p.c {
		return p, strings.Count(s, "\n") + 1, api.ErrForm
	}
	f := p.formula()
	if n := len(slices.Concat(f...)); len(varsOf(append(slices.Clone(f), p.declared("aed")))) > 1024 || n > 200000 {
		return p, 0, api.ErrLong
	}
	return p, 0, api.OK
}

func varsOf(f [][]int) map[int]bool {
	set := map[int]bool{}
	for _, x := range slices.Concat(f...) {
		set[max(x, -x)] = true
	}
	return set
}

// formula returns the clauses that are not left out, normal.
func (p *parsed) formula() [][]int {
	var f [][]int
	for _, c := range p.clauses {
		set := map[int]bool{}
		for _, x := range c {
			set[x] = true
		}
		if len(set) == len(varsOf([][]int{c})) {
			f = append(f, slices.SortedFunc(maps.Keys(set), func(x, y int) int { return max(x, -x) - max(y, -y) }))
		}
	}
	return f
}

// free returns the variables of the clauses that are not declared, ascending.
func (p *parsed) free() []int {
	set := varsOf(p.formula())
	for _, v := range p.declared("aed") {
		delete(set, v)
	}
	return slices.Sorted(maps.Keys(set))
}

func naiveRead(s string) (api.Qbf, int, api.Errno) {
	p, line, e := parse(s, false)
	if e != api.OK {
		return api.Qbf{}, line, e
	}
	q := api.Qbf{Clauses: p.formula()}
	put := func(exists bool, vars []int) {
		end := len(q.Prefix) - 1
		if len(vars) > 0 && end >= 0 && q.Prefix[end].Exists == exists {
			q.Prefix[end].Vars = slices.Concat(q.Prefix[end].Vars, vars)
		} else if len(vars) > 0 {
			q.Prefix = append(q.Prefix, api.Block{Exists: exists, Vars: vars})
		}
	}
	// The first block, if it is existential, and then the variables that are not declared.
	free := p.free()
	for i, l := range p.numbers {
		if len(free) > 0 && p.letters[i] == "a" && len(l) > 0 {
			put(true, free)
			free = nil
		}
		put(p.letters[i] == "e", l)
	}
	put(true, free)
	return q, 0, api.OK
}

func naiveReadDeps(s string) (api.Dqbf, int, api.Errno) {
	p, line, e := parse(s, true)
	if e != api.OK {
		return api.Dqbf{}, line, e
	}
	sorted := func(l []int) []int { return slices.Sorted(slices.Values(l)) }
	d := api.Dqbf{Univ: sorted(p.declared("a")), Clauses: p.formula()}
	for i, letter := range p.letters {
		before := parsed{letters: p.letters[:i], numbers: p.numbers[:i]}
		if letter == "d" {
			d.Exist = append(d.Exist, row(p.numbers[i][0], sorted(p.numbers[i][1:])...))
		}
		for _, v := range p.numbers[i] {
			if letter == "e" {
				d.Exist = append(d.Exist, row(v, sorted(before.declared("a"))...))
			}
		}
	}
	for _, v := range p.free() {
		d.Exist = append(d.Exist, row(v))
	}
	slices.SortFunc(d.Exist, func(x, y api.Dep) int { return x.Var - y.Var })
	return d, 0, api.OK
}
