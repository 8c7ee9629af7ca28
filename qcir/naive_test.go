package qcir_test

import (
	"regexp"
	"slices"
	"strconv"
	"strings"

	"skolem/api"
)

// The functions of this file follow the chapter's sentences word by word, without regard to time; the tests hold the package against them.

func all(v ...int) api.Block { return api.Block{Vars: v} }

func some(v ...int) api.Block { return api.Block{Exists: true, Vars: v} }

func prefix(b ...api.Block) []api.Block { return b }

func and(v int, in ...int) api.Gate { return api.Gate{Var: v, Kind: api.GateAnd, In: in} }

func or(v int, in ...int) api.Gate { return api.Gate{Var: v, Kind: api.GateOr, In: in} }

func xor(v int, in ...int) api.Gate { return api.Gate{Var: v, Kind: api.GateXor, In: in} }

func ite(v int, in ...int) api.Gate { return api.Gate{Var: v, Kind: api.GateIte, In: in} }

func net(p []api.Block, out int, gates ...api.Gate) api.Net {
	return api.Net{Prefix: p, Gates: gates, Out: out}
}

func same(a, b api.Net) bool {
	sameBlock := func(x, y api.Block) bool { return x.Exists == y.Exists && slices.Equal(x.Vars, y.Vars) }
	sameGate := func(x, y api.Gate) bool { return x.Var == y.Var && x.Kind == y.Kind && slices.Equal(x.In, y.In) }
	return slices.EqualFunc(a.Prefix, b.Prefix, sameBlock) && slices.EqualFunc(a.Gates, b.Gates, sameGate) && a.Out == b.Out
}

// isNothing reports whether a net is zero, as it must be together with an error.
func isNothing(n api.Net) bool { return n.Prefix == nil && n.Gates == nil && n.Out == 0 }

// listOf returns numbers in brackets.
func listOf(l []int) string {
	var words []string
	for _, n := range l {
		words = append(words, strconv.Itoa(n))
	}
	return "(" + strings.Join(words, ", ") + ")"
}

var naiveWords = map[api.GateKind]string{api.GateAnd: "and", api.GateOr: "or", api.GateXor: "xor", api.GateIte: "ite"}

// naiveLines returns the lines of the text of a valid net.
func naiveLines(n api.Net) []string {
	lines := []string{"#QCIR-14"}
	for _, b := range n.Prefix {
		lines = append(lines, map[bool]string{true: "exists", false: "forall"}[b.Exists]+listOf(b.Vars))
	}
	lines = append(lines, "output("+strconv.Itoa(n.Out)+")")
	for _, g := range n.Gates {
		lines = append(lines, strconv.Itoa(g.Var)+" = "+naiveWords[g.Kind]+listOf(g.In))
	}
	return lines
}

func naivePrint(n api.Net) string { return strings.Join(naiveLines(n), "\n") + "\n" }

var (
	tokens    = regexp.MustCompile(`[a-z]+|[0-9]+|[(),=-]`)
	otherByte = regexp.MustCompile(`[^a-z0-9(),= -]`)
	isNumber  = regexp.MustCompile(`^[1-9][0-9]*$`)

	// The forms of lines, in which each token has a space behind it.
	block  = regexp.MustCompile(`^(free|exists|forall) \( ([0-9]+ (, [0-9]+ )*)?\) $`)
	output = regexp.MustCompile(`^output \( (- )?[0-9]+ \) $`)
	gate   = regexp.MustCompile(`^[0-9]+ = (and|or|xor|ite) \( ((- )?[0-9]+ (, (- )?[0-9]+ )*)?\) $`)

	order = regexp.MustCompile(`^f?b*(og*)?$`)
)

// parsed is what a line is: the letter of its form (f, b, o, g, or nothing), its words, and its numbers, those behind - negative.
type parsed struct {
	form    string
	words   []string
	numbers []int
}

// parse returns what a line is; false: it cannot be read.
func parse(line string) (p parsed, ok bool) {
	if strings.ReplaceAll(line, " ", "") == "" || line[0] == '#' {
		return parsed{}, true
	}
	if otherByte.MatchString(line) {
		return parsed{}, false
	}
	var spaced strings.Builder
	sign := 1
	for _, token := range tokens.FindAllString(line, -1) {
		spaced.WriteString(token + " ")
		switch c := token[0]; {
		case c >= '0' && c <= '9':
			n, e := strconv.Atoi(token)
			if !isNumber.MatchString(token) || n > 65536 || e != nil {
				return parsed{}, false
			}
			p.numbers = append(p.numbers, sign*n)
		case c >= 'a':
			p.words = append(p.words, token)
		}
		sign = map[bool]int{true: -1, false: 1}[token == "-"]
	}
	switch s := spaced.String(); {
	case block.MatchString(s):
		p.form = map[bool]string{true: "f", false: "b"}[p.words[0] == "free"]
	case output.MatchString(s):
		p.form = "o"
	case gate.MatchString(s):
		p.form = "g"
	default:
		return parsed{}, false
	}
	return p, true
}

// vars returns the variables of the lists of free and block lines, and to the left of =, of some lines.
func vars(lines ...parsed) []int {
	var l []int
	for _, p := range lines {
		switch p.form {
		case "f", "b":
			l = append(l, p.numbers...)
		case "g":
			l = append(l, p.numbers[0])
		}
	}
	return l
}

// literals returns the literals of an output or gate line.
func (p parsed) literals() []int {
	switch p.form {
	case "o":
		return p.numbers
	case "g":
		return p.numbers[1:]
	}
	return nil
}

// twice reports whether a number is twice in a list.
func twice(l []int) bool {
	l = slices.Sorted(slices.Values(l))
	return len(slices.Compact(slices.Clone(l))) < len(l)
}

// lineError returns the error of a line behind others.
func lineError(before []parsed, p parsed) api.Errno {
	forms, quantified, inputs := "", 0, 0
	lines := append(slices.Clone(before), p)
	for _, l := range lines {
		forms += l.form
		if l.form == "f" || l.form == "b" {
			quantified += len(l.numbers)
		}
		if l.form == "g" {
			inputs += len(l.literals())
		}
	}
	n := len(p.literals())
	switch {
	case !order.MatchString(forms):
		return api.ErrForm
	case p.form == "g" && (p.words[0] == "xor" && n != 2 || p.words[0] == "ite" && n != 3):
		return api.ErrArg
	case p.form != "" && twice(vars(lines...)):
		return api.ErrThere
	case (p.form == "f" || p.form == "b") && quantified > 1024, p.form == "g" && inputs > 200000:
		return api.ErrLong
	}
	return api.OK
}

// naiveOrder takes gates, again and again the first one that can be taken; false: a gate is left.
func naiveOrder(names []int, gates []api.Gate) ([]api.Gate, bool) {
	var out []api.Gate
	for rest := slices.Clone(gates); len(rest) > 0; {
		i := slices.IndexFunc(rest, func(g api.Gate) bool {
			return !slices.ContainsFunc(g.In, func(x int) bool { return !slices.Contains(names, max(x, -x)) })
		})
		if i < 0 {
			return nil, false
		}
		names = append(slices.Clone(names), rest[i].Var)
		out = append(out, rest[i])
		rest = slices.Delete(rest, i, i+1)
	}
	return out, true
}

// naivePrefix returns the prefix of the lines.
func naivePrefix(lines []parsed) []api.Block {
	var p []api.Block
	for _, l := range lines {
		if l.form == "f" || l.form == "b" {
			p = append(p, api.Block{Exists: l.words[0] != "forall", Vars: l.numbers})
		}
	}
	p = slices.DeleteFunc(p, func(b api.Block) bool { return len(b.Vars) == 0 })
	for i := 1; i < len(p); {
		if p[i].Exists == p[i-1].Exists {
			p[i-1].Vars = slices.Concat(p[i-1].Vars, p[i].Vars)
			p = slices.Delete(p, i, i+1)
		} else {
			i++
		}
	}
	return p
}

func naiveRead(s string) (api.Net, int, api.Errno) {
	if len(s) > 4194304 {
		return api.Net{}, 0, api.ErrLong
	}
	var lines []parsed
	for i, text := range strings.Split(strings.TrimSuffix(s, "\n"), "\n") {
		p, ok := parse(text)
		if !ok {
			return api.Net{}, i + 1, api.ErrForm
		}
		if e := lineError(lines, p); e != api.OK {
			return api.Net{}, i + 1, e
		}
		lines = append(lines, p)
	}
	var n api.Net
	known := vars(lines...)
	outputs := 0
	for _, p := range lines {
		outputs += strings.Count(p.form, "o")
	}
	if outputs == 0 {
		return api.Net{}, 0, api.ErrForm
	}
	for i, p := range lines {
		for _, x := range p.literals() {
			if !slices.Contains(known, max(x, -x)) {
				return api.Net{}, i + 1, api.ErrNone
			}
		}
		switch p.form {
		case "o":
			n.Out = p.numbers[0]
		case "g":
			for kind, word := range naiveWords {
				if word == p.words[0] {
					n.Gates = append(n.Gates, api.Gate{Var: p.numbers[0], Kind: kind, In: p.numbers[1:]})
				}
			}
		}
	}
	n.Prefix = naivePrefix(lines)
	var names []int
	for _, b := range n.Prefix {
		names = append(names, b.Vars...)
	}
	gates, ok := naiveOrder(names, n.Gates)
	if !ok {
		return api.Net{}, 0, api.ErrCycle
	}
	n.Gates = gates
	return n, 0, api.OK
}
