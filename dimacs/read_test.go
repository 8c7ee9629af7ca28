package dimacs_test

import (
	"strings"
	"testing"

	"skolem/api"
	"skolem/dimacs"
)

// P7.2: what texts mean.

// reading is a text (lines divided by /) and what it means in both formats.
type reading struct {
	text string
	q    api.Qbf
	d    api.Dqbf
}

// readings are texts without d lines.
func readings() map[string]reading {
	none := dqbf(nil, nil)
	return map[string]reading{
		"the chapter's first example":  {"p cnf 3 2/a 1 0/e 2 0/2 -1 2 0/3 -3 0", qbf(blocks(all(1), some(2)), ints(-1, 2)), dqbf(ints(1), rows(row(2, 1)), ints(-1, 2))},
		"the chapter's second example": {"p cnf 2 1/a 1 0/2 1 0", qbf(blocks(some(2), all(1)), ints(1, 2)), dqbf(ints(1), rows(row(2)), ints(1, 2))},
		"the document's example":       {"p cnf 2 2/a 1 0/e 2 0/1 2 0/-1 -2 0/", qbf(blocks(all(1), some(2)), ints(1, 2), ints(-1, -2)), dqbf(ints(1), rows(row(2, 1)), ints(1, 2), ints(-1, -2))},
		"the header alone":             {"p cnf 0 0", qbf(nil), none},
		"variables that are nowhere":   {"p cnf 9 0/", qbf(nil), none},
		"an empty last line":           {"p cnf 1 1/1 0/", qbf(blocks(some(1)), ints(1)), dqbf(nil, rows(row(1)), ints(1))},
		"a last line without words":    {"p cnf 1 1/1 0/ \t ", qbf(blocks(some(1)), ints(1)), dqbf(nil, rows(row(1)), ints(1))},
		"empty lines at the end":       {"p cnf 1 1/1 0////", qbf(blocks(some(1)), ints(1)), dqbf(nil, rows(row(1)), ints(1))},
		"a comment at the end":         {"p cnf 1 1/1 0/c", qbf(blocks(some(1)), ints(1)), dqbf(nil, rows(row(1)), ints(1))},
		"lines without words":          {"// \t/p cnf 1 1//\t/  /1 0", qbf(blocks(some(1)), ints(1)), dqbf(nil, rows(row(1)), ints(1))},
		"tabs and many spaces":         {"\t p\tcnf   2 \t\t1\t/\t\ta    1\t0  /  1\t-2   0\t", qbf(blocks(some(2), all(1)), ints(1, -2)), dqbf(ints(1), rows(row(2)), ints(1, -2))},
		"comments":                     {"c/c p cnf 9 9/ \tc x y/p cnf 2 2/c e 1 0/a 1 0/c a 2 0/e 2 0/c\t5 0/1 0/c 1 2 x/2 0/c 2 0/c", qbf(blocks(all(1), some(2)), ints(1), ints(2)), dqbf(ints(1), rows(row(2, 1)), ints(1), ints(2))},
		"comments of any bytes":        {"c \xff\x00\r é -0 00 99999999999/p cnf 0 0/c\t\r", qbf(nil), none},
		"an empty clause":              {"p cnf 0 1/0", qbf(nil, ints()), dqbf(nil, nil, ints())},
		"empty clauses":                {"p cnf 3 3/e 2 0/0/-2 0/0/", qbf(blocks(some(2)), ints(), ints(-2), ints()), dqbf(nil, rows(row(2)), ints(), ints(-2), ints())},
		"no prefix":                    {"p cnf 9 2/7 -3 0/5 3 0", qbf(blocks(some(3, 5, 7)), ints(-3, 7), ints(3, 5)), dqbf(nil, rows(row(3), row(5), row(7)), ints(-3, 7), ints(3, 5))},
		"no clauses":                   {"p cnf 9 0/a 7 3 0/e 5 0", qbf(blocks(all(7, 3), some(5))), dqbf(ints(3, 7), rows(row(5, 3, 7)))},
		"a prefix of a alone":          {"p cnf 9 0/a 7 3 0", qbf(blocks(all(7, 3))), dqbf(ints(3, 7), nil)},
		"a prefix of e alone":          {"p cnf 9 0/e 7 3 0", qbf(blocks(some(7, 3))), dqbf(nil, rows(row(3), row(7)))},
		"a literal twice":              {"p cnf 3 1/e 3 1 0/3 -1 3 3 -1 0", qbf(blocks(some(3, 1)), ints(-1, 3)), dqbf(nil, rows(row(1), row(3)), ints(-1, 3))},
		"a clause that is there twice": {"p cnf 2 3/2 1 0/1 0/1 2 0", qbf(blocks(some(1, 2)), ints(1, 2), ints(1), ints(1, 2)), dqbf(nil, rows(row(1), row(2)), ints(1, 2), ints(1), ints(1, 2))},
		"a clause of both literals":    {"p cnf 3 3/1 0/3 2 -3 0/-1 0", qbf(blocks(some(1)), ints(1), ints(-1)), dqbf(nil, rows(row(1)), ints(1), ints(-1))},
		"both literals, many times":    {"p cnf 3 1/-2 -2 1 2 -2 2 0", qbf(nil), none},
		"all clauses are left out":     {"p cnf 2 2/a 1 0/1 -1 0/2 -2 0", qbf(blocks(all(1))), dqbf(ints(1), nil)},
		"opposites in two clauses":     {"p cnf 2 2/1 2 0/-1 -2 0", qbf(blocks(some(1, 2)), ints(1, 2), ints(-1, -2)), dqbf(nil, rows(row(1), row(2)), ints(1, 2), ints(-1, -2))},
		"neighbours of one kind":       {"p cnf 9 1/e 5 0/e 3 0/a 0/e 4 0/a 1 0/2 0", qbf(blocks(some(5, 3, 4, 2), all(1)), ints(2)), dqbf(ints(1), rows(row(2), row(3), row(4), row(5)), ints(2))},
		"universal neighbours":         {"p cnf 9 0/a 5 0/a 3 9 0/e 1 0/a 2 0/a 6 0", qbf(blocks(all(5, 3, 9), some(1), all(2, 6))), dqbf(ints(2, 3, 5, 6, 9), rows(row(1, 3, 5, 9)))},
		"lines without variables":      {"p cnf 9 1/e 0/a 0/a 4 0/e 0/a 2 0/e 1 0/a 0/e 0/3 0", qbf(blocks(some(3), all(4, 2), some(1)), ints(3)), dqbf(ints(2, 4), rows(row(1, 2, 4), row(3)), ints(3))},
		"nothing but such lines":       {"p cnf 0 0/e 0/a 0/e 0", qbf(nil), none},
		"an e line between":            {"p cnf 9 0/a 6 1 0/e 8 3 0/a 4 0/e 2 7 0", qbf(blocks(all(6, 1), some(8, 3), all(4), some(2, 7))), dqbf(ints(1, 4, 6), rows(row(2, 1, 4, 6), row(3, 1, 6), row(7, 1, 4, 6), row(8, 1, 6)))},
		"variables that are not in it": {"p cnf 9 2/e 4 0/a 3 0/e 2 0/9 3 -1 0/-2 4 0", qbf(blocks(some(4, 1, 9), all(3), some(2)), ints(-1, 3, 9), ints(-2, 4)), dqbf(ints(3), rows(row(1), row(2, 3), row(4), row(9)), ints(-1, 3, 9), ints(-2, 4))},
		"those of what is left out":    {"p cnf 9 2/e 4 0/8 -9 -8 0/4 7 0", qbf(blocks(some(4, 7)), ints(4, 7)), dqbf(nil, rows(row(4), row(7)), ints(4, 7))},
		"V itself":                     {"p cnf 2 1/e 2 0/-2 0", qbf(blocks(some(2)), ints(-2)), dqbf(nil, rows(row(2)), ints(-2))},
		"the greatest V":               {"p cnf 65536 1/e 65536 0/-65536 1 0", qbf(blocks(some(65536, 1)), ints(1, -65536)), dqbf(nil, rows(row(1), row(65536)), ints(1, -65536))},
	}
}

// divided returns the text whose lines are divided by /.
func divided(s string) string { return strings.ReplaceAll(s, "/", "\n") }

func TestRead(t *testing.T) {
	for name, c := range readings() {
		s := divided(c.text)
		if q, line, e := dimacs.Read(s); !sameQbf(q, c.q) || line != 0 || e != api.OK {
			t.Errorf("Read of %s: %v, %d, %v", name, q, line, e)
		}
		if d, line, e := dimacs.ReadDeps(s); !sameDqbf(d, c.d) || line != 0 || e != api.OK {
			t.Errorf("ReadDeps of %s: %v, %d, %v", name, d, line, e)
		}
		q, _, _ := naiveRead(s)
		if d, _, _ := naiveReadDeps(s); !sameQbf(q, c.q) || !sameDqbf(d, c.d) {
			t.Errorf("the naive readings of %s: %v, %v", name, q, d)
		}
	}
}

func TestReadDeps(t *testing.T) {
	for name, c := range map[string]struct {
		text string
		want api.Dqbf
	}{
		"the chapter's example":        {"p cnf 4 1/a 1 2 0/d 3 1 0/e 4 0/3 4 0", dqbf(ints(1, 2), rows(row(3, 1), row(4, 1, 2)), ints(3, 4))},
		"a variable alone":             {"p cnf 3 0/d 3 0", dqbf(nil, rows(row(3)))},
		"a variable alone, behind a":   {"p cnf 3 0/a 1 2 0/d 3 0", dqbf(ints(1, 2), rows(row(3)))},
		"On in any order":              {"p cnf 9 0/a 8 1 5 0/d 2 8 5 1 0/d 9 5 1 0", dqbf(ints(1, 5, 8), rows(row(2, 1, 5, 8), row(9, 1, 5)))},
		"rows in any order":            {"p cnf 9 0/d 7 0/a 3 0/d 9 3 0/a 1 0/e 4 0/d 2 1 0/e 8 0/e 6 0", dqbf(ints(1, 3), rows(row(2, 1), row(4, 1, 3), row(6, 1, 3), row(7), row(8, 1, 3), row(9, 3)))},
		"the d line first":             {"p cnf 9 1/d 3 0/e 2 0/a 1 0/e 4 0/1 2 3 4 5 0", dqbf(ints(1), rows(row(2), row(3), row(4, 1), row(5)), ints(1, 2, 3, 4, 5))},
		"an a line behind":             {"p cnf 9 0/a 1 0/d 2 1 0/a 3 0/d 4 3 0/e 5 0", dqbf(ints(1, 3), rows(row(2, 1), row(4, 3), row(5, 1, 3)))},
		"On that is in two rows":       {"p cnf 9 0/a 1 2 0/d 3 2 1 0/d 4 2 1 0/d 5 2 0", dqbf(ints(1, 2), rows(row(3, 1, 2), row(4, 1, 2), row(5, 2)))},
		"empty lines between":          {"p cnf 9 0/a 2 0/e 0/d 1 2 0/a 0/d 3 2 0", dqbf(ints(2), rows(row(1, 2), row(3, 2)))},
		"tabs and comments":            {"c d 1 0/\tp cnf 9 1/a\t2 3 0/c d 4 0/ \td  1 \t3\t2 0 /d 5 0/c/6 0", dqbf(ints(2, 3), rows(row(1, 2, 3), row(5), row(6)), ints(6))},
		"what is not declared":         {"p cnf 9 2/a 5 0/d 6 5 0/9 -6 0/-2 5 0", dqbf(ints(5), rows(row(2), row(6, 5), row(9)), ints(-6, 9), ints(-2, 5))},
		"a d line without its clauses": {"p cnf 9 1/a 5 0/d 6 5 0/7 -7 0", dqbf(ints(5), rows(row(6, 5)))},
		"the greatest ones":            {"p cnf 65536 1/a 65535 0/d 65536 65535 0/65536 0", dqbf(ints(65535), rows(row(65536, 65535)), ints(65536))},
		"the text of stage 7":          {"p cnf 6 1/a 2 0/e 5 0/a 1 0/d 4 1 2 0/d 3 0/6 0", dqbf(ints(1, 2), rows(row(3), row(4, 1, 2), row(5, 2), row(6)), ints(6))},
	} {
		s := divided(c.text)
		if d, line, e := dimacs.ReadDeps(s); !sameDqbf(d, c.want) || line != 0 || e != api.OK {
			t.Errorf("ReadDeps of %s: %v, %d, %v", name, d, line, e)
		}
		if d, _, _ := naiveReadDeps(s); !sameDqbf(d, c.want) {
			t.Errorf("the naive reading of %s: %v", name, d)
		}
		if q, _, e := dimacs.Read(s); !isNothing(q) || e != api.ErrForm {
			t.Errorf("Read of %s: %v, %v", name, q, e)
		}
	}
}

// sameAsNaive holds both functions against the naive ones; it returns what ReadDeps returns of errors.
func sameAsNaive(t *testing.T, s string) (int, api.Errno) {
	t.Helper()
	q, line, e := dimacs.Read(s)
	p, at, f := naiveRead(s)
	if !sameQbf(q, p) || line != at || e != f || e != api.OK && !isNothing(q) {
		t.Errorf("Read(%.200q) = %v, %d, %v, and not %v, %d, %v", s, q, line, e, p, at, f)
	}
	d, line, e := dimacs.ReadDeps(s)
	c, at, f := naiveReadDeps(s)
	if !sameDqbf(d, c) || line != at || e != f || e != api.OK && !isNoDqbf(d) {
		t.Errorf("ReadDeps(%.200q) = %v, %d, %v, and not %v, %d, %v", s, d, line, e, c, at, f)
	}
	return line, e
}

// TestReadOfAllSorts: texts with at most three changes, among them errors of each kind.
func TestReadOfAllSorts(t *testing.T) {
	dice := dice(71)
	count := map[api.Errno]int{}
	for range 60000 {
		lines := dice.lines([]string{"ae", "aed"}[dice.below(2)])
		for range dice.below(4) {
			lines = dice.spoil(lines)
		}
		_, e := sameAsNaive(t, dice.written(lines))
		count[e]++
	}
	for _, e := range []api.Errno{api.OK, api.ErrForm, api.ErrRange, api.ErrThere, api.ErrNone} {
		if count[e] < 200 {
			t.Errorf("%d texts with %v", count[e], e)
		}
	}
}

// sequences returns all texts that are made of at most n of some parts, with a beginning in front.
func sequences(begin string, n int, parts ...string) []string {
	texts := []string{begin}
	for from := 0; n > 0; n-- {
		to := len(texts)
		for _, s := range texts[from:to] {
			for _, part := range parts {
				texts = append(texts, s+part)
			}
		}
		from = to
	}
	return texts
}

// TestReadOfAllLines goes through all texts of a header and at most four of some lines.
func TestReadOfAllLines(t *testing.T) {
	lines := []string{"\na 1 0", "\na 2 0", "\ne 1 0", "\ne 2 0", "\na 0", "\ne 2 1 0", "\nd 1 0", "\nd 2 1 0", "\nd 1 2 0", "\n1 0", "\n-1 1 0", "\n2 -1 2 0", "\n0", "\nc 1", "\n"}
	for _, header := range []string{"p cnf 2 0", "p cnf 2 1", "p cnf 1 2"} {
		for _, s := range sequences(header, 4, lines...) {
			sameAsNaive(t, s)
		}
	}
}

// TestReadOfShortStrings goes through all strings of some bytes, as the line of a clause and as the On of a d line.
func TestReadOfShortStrings(t *testing.T) {
	for _, s := range sequences("", 4, strings.Split(" \t\n\r012-+cead", "")...) {
		sameAsNaive(t, "p cnf 21 1\n"+s)
		sameAsNaive(t, "p cnf 21 1\na 1 0\nd 2 "+s+" 0\n0")
	}
}
