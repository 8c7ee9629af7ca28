package dimacs_test

import (
	"slices"
	"strings"
	"testing"

	"skolem/api"
	"skolem/dimacs"
)

// P7.2, at the limits.

// accepted reads a text with both functions, which must take it, and returns how many variables, clauses and literals the formula has.
func accepted(t *testing.T, name, s string) (vars, clauses, literals int) {
	t.Helper()
	q, line, e := dimacs.Read(s)
	if line != 0 || e != api.OK {
		t.Errorf("Read of %s: %d, %v", name, line, e)
	}
	d, line, e := dimacs.ReadDeps(s)
	if line != 0 || e != api.OK {
		t.Errorf("ReadDeps of %s: %d, %v", name, line, e)
	}
	if p, _, _ := naiveRead(s); !sameQbf(q, p) {
		t.Errorf("Read of %s is another Qbf", name)
	}
	if c, _, _ := naiveReadDeps(s); !sameDqbf(d, c) {
		t.Errorf("ReadDeps of %s is another Dqbf", name)
	}
	return len(d.Univ) + len(d.Exist), len(q.Clauses), len(slices.Concat(q.Clauses...))
}

// tooLong holds both functions against a text that is too long.
func tooLong(t *testing.T, name, s string) {
	t.Helper()
	if q, line, e := dimacs.Read(s); !isNothing(q) || line != 0 || e != api.ErrLong {
		t.Errorf("Read of %s: %d, %v", name, line, e)
	}
	if d, line, e := dimacs.ReadDeps(s); !isNoDqbf(d) || line != 0 || e != api.ErrLong {
		t.Errorf("ReadDeps of %s: %d, %v", name, line, e)
	}
}

func TestHeaderAtLimits(t *testing.T) {
	for _, s := range []string{"p cnf 65536 0", "p cnf 0 0", "p cnf 65536 0\ne 65536 1 0\n"} {
		accepted(t, s, s)
	}
	s := "p cnf 0 20000\n" + strings.Repeat("0\n", 20000)
	if vars, clauses, _ := accepted(t, "20000 empty clauses", s); vars != 0 || clauses != 20000 {
		t.Errorf("%d variables, %d clauses", vars, clauses)
	}
	for _, m := range []mistake{{s + "0\n", 20002, api.ErrForm}, {s[:len(s)-1] + "\n\nc\n0", 20004, api.ErrForm}, {s[:len(s)-2], 20001, api.ErrForm}, {strings.Replace(s, "20000", "20001", 1) + "0\n", 1, api.ErrRange}} {
		refused(t, m)
	}
	s = "p cnf 3 20000\n" + strings.Repeat("1 -1 0\n2 1 0\n", 10000)
	if vars, clauses, literals := accepted(t, "20000 clauses", s); vars != 2 || clauses != 10000 || literals != 20000 {
		t.Errorf("%d variables, %d clauses, %d literals", vars, clauses, literals)
	}
	refused(t, mistake{s + "3 -3 0", 20002, api.ErrForm})
}

func TestVariablesAtLimits(t *testing.T) {
	a, e := lineOf([]string{"a"}, variables(1, 512)...), lineOf([]string{"e"}, variables(60001, 60512)...)
	both, rest := a+"\n"+e+"\n", lineOf(nil, variables(2001, 2512)...)
	for name, s := range map[string]string{
		"1024 variables of a":          textOf("p cnf 1024 0", lineOf([]string{"a"}, variables(1, 1024)...)),
		"1024 variables of e":          textOf("p cnf 65536 0", lineOf([]string{"e"}, variables(64513, 65536)...)),
		"512 of each":                  "p cnf 65536 0\n" + both,
		"512 of each, and of a clause": "p cnf 65536 1\n" + both + lineOf(nil, variables(1, 512)...),
		"512 declared, 512 in clauses": textOf("p cnf 65536 2", a, rest, "-2001 0"),
		"1024 in a clause":             textOf("p cnf 65536 1", lineOf(nil, variables(3000, 4023)...)),
		"1024 in two clauses":          textOf("p cnf 65536 2", lineOf(nil, variables(3000, 3600)...), lineOf(nil, variables(3500, 4023)...)),
		"more in what is left out":     textOf("p cnf 65536 2", a, rest, lineOf([]string{"-9000"}, variables(9000, 12000)...)),
		"all of them in such a one":    textOf("p cnf 65536 1", lineOf([]string{"-65536"}, variables(1, 65536)...)),
		"1024 in blocks of one":        "p cnf 1024 0\n" + oneByOne("ae", 1024),
	} {
		vars, _, _ := accepted(t, name, s)
		if vars != 1024 && !strings.Contains(name, "all") {
			t.Errorf("%s: %d variables", name, vars)
		}
	}
	long := map[string]string{
		"1025 variables of a":          textOf("p cnf 1025 0", lineOf([]string{"a"}, variables(1, 1025)...)),
		"1025 variables of e":          textOf("p cnf 65536 0", lineOf([]string{"e"}, variables(64512, 65536)...)),
		"513 and 512":                  "p cnf 65536 0\n" + both + "a 60513 0",
		"513 and 512, and 1":           "p cnf 65536 1\n" + both + "1 -60513 0",
		"512 declared, 513 in clauses": textOf("p cnf 65536 2", a, rest, "1 -2513 0"),
		"1025 in a clause":             textOf("p cnf 65536 1", lineOf(nil, variables(3000, 4024)...)),
		"1025 in two clauses":          textOf("p cnf 65536 2", lineOf(nil, variables(3000, 3600)...), lineOf(nil, variables(3500, 4024)...)),
		"1025 in blocks of one":        "p cnf 1025 0\n" + oneByOne("ae", 1025),
		"all variables":                textOf("p cnf 65536 1", lineOf([]string{"e"}, variables(1, 65536)...), lineOf(nil, variables(1, 65536)...)),
		"all in blocks of one":         "p cnf 65536 0\n" + oneByOne("ae", 65536),
	}
	for name, s := range long {
		tooLong(t, name, s)
	}
	s := long["1025 variables of a"]
	for _, m := range []mistake{{s + "a 1 0", 3, api.ErrThere}, {s + "\ne 1026 0", 4, api.ErrRange}, {s + "0", 3, api.ErrForm}, {strings.Replace(s, " 0\na", " 1\na", 1), 3, api.ErrForm}, {strings.Replace(s, " 0\na", " 1\nc\na", 1) + "\n", 5, api.ErrForm}, {strings.Replace(s, " 0\na", " 1\na", 1) + "1026 0", 3, api.ErrRange}} {
		refused(t, m)
	}
}

// oneByOne returns prefix lines of a variable each, which begin with one letter after the other.
func oneByOne(letters string, n int) string {
	var lines []string
	for v := 1; v <= n; v++ {
		lines = append(lines, lineOf([]string{letters[v%len(letters) : v%len(letters)+1]}, v))
	}
	return textOf(lines...)
}

func TestRowsAtLimits(t *testing.T) {
	s := textOf("p cnf 1024 0", lineOf([]string{"a"}, variables(1, 512)...))
	for v := 513; v <= 1024; v++ {
		s += lineOf([]string{"d"}, append(ints(v), variables(1, 512)...)...) + "\n"
	}
	d, line, e := dimacs.ReadDeps(s)
	if _, want := largest(); !sameDqbf(d, dqbf(want.Univ, want.Exist)) || line != 0 || e != api.OK {
		t.Errorf("512 rows: %d, %v", line, e)
	}
	s = strings.Replace(s, "1024", "1025", 1)
	for name, more := range map[string]string{"d": "d 1025 0", "a": "a 1025 0", "e": "e 1025 0"} {
		if d, line, e := dimacs.ReadDeps(s + more); !isNoDqbf(d) || line != 0 || e != api.ErrLong {
			t.Errorf("a variable more, of %s: %d, %v", name, line, e)
		}
	}
	for more, want := range map[string]api.Errno{"d 1025 513 0": api.ErrNone, "d 1024 0": api.ErrThere, "d 1026 0": api.ErrRange, "x": api.ErrForm} {
		if d, line, e := dimacs.ReadDeps(s + more); !isNoDqbf(d) || line != 515 || e != want {
			t.Errorf("%s behind the rows: %d, %v", more, line, e)
		}
	}
	s = "p cnf 65536 0\na 65536 0\n"
	s += strings.ReplaceAll(oneByOne("d", 65535), " 0\n", " 65536 0\n")
	if d, line, e := dimacs.ReadDeps(s); !isNoDqbf(d) || line != 0 || e != api.ErrLong {
		t.Errorf("65535 rows: %d, %v", line, e)
	}
}

func TestLiteralsAtLimits(t *testing.T) {
	wide := lineOf(nil, variables(1, 1000)...) + "\n"
	twice := strings.TrimSuffix(wide, "0\n") + wide
	out := "1000 " + lineOf(nil, append(variables(1, 999), -1000)...) + "\n"
	for name, s := range map[string]string{
		"200 clauses":                     "p cnf 1000 200\n" + strings.Repeat(wide, 200),
		"200 clauses, each literal twice": "p cnf 1000 200\n" + strings.Repeat(twice, 200),
		"and those that are left out":     "p cnf 1000 300\n" + strings.Repeat(wide, 150) + strings.Repeat(out, 100) + strings.Repeat(wide, 50),
		"and empty clauses":               "p cnf 1000 20000\n" + strings.Repeat(wide, 200) + strings.Repeat("0\n", 19800),
	} {
		if vars, _, literals := accepted(t, name, s); vars != 1000 || literals != 200000 {
			t.Errorf("%s: %d variables, %d literals", name, vars, literals)
		}
	}
	for name, s := range map[string]string{
		"200 clauses, and one of a literal": "p cnf 1000 201\n" + strings.Repeat(wide, 200) + "1 0\n",
		"the one of a literal first":        "p cnf 1000 201\n1 0\n" + strings.Repeat(wide, 200),
		"1001 literals in the last one":     "p cnf 1001 200\n" + strings.Repeat(wide, 199) + "1001 " + wide,
		"1001 literals in the first one":    "p cnf 1001 200\n1001 " + wide + strings.Repeat(wide, 199),
		"an empty clause behind":            "p cnf 1000 202\n" + strings.Repeat(wide, 201) + "0\n",
		"what is left out behind":           "p cnf 1000 202\n" + strings.Repeat(wide, 201) + out,
	} {
		tooLong(t, name, s)
		for _, last := range []string{"3 0", "a 1 0", "x"} {
			refusedLong(t, s+last, strings.Count(s, "\n")+1, api.ErrForm)
		}
	}
	tooLong(t, "20000 clauses of 1000 literals", "p cnf 1000 20000\n"+strings.Repeat(wide, 20000))
	s := "p cnf 1000 202\n" + strings.Repeat(wide, 201)
	for last, e := range map[string]api.Errno{"": api.ErrForm, "1": api.ErrForm, "1001 0": api.ErrRange, "1 0 0": api.ErrForm, "a 0": api.ErrForm} {
		refusedLong(t, s+last, 203, e)
	}
}

// refusedLong is like refused, for long texts, for which the naive functions take too much time.
func refusedLong(t *testing.T, s string, line int, want api.Errno) {
	t.Helper()
	if q, at, e := dimacs.Read(s); !isNothing(q) || at != line || e != want {
		t.Errorf("Read of %d bytes: %d, %v", len(s), at, e)
	}
	if d, at, e := dimacs.ReadDeps(s); !isNoDqbf(d) || at != line || e != want {
		t.Errorf("ReadDeps of %d bytes: %d, %v", len(s), at, e)
	}
}

// TestLongLines: what a line may hold has no limit of its own.
func TestLongLines(t *testing.T) {
	for name, s := range map[string]string{
		"a literal 1000000 times":   "p cnf 1 1\n" + strings.Repeat("-1 ", 1000000) + "0",
		"three literals, in turn":   "p cnf 3 1\n" + strings.Repeat("3 -1 2 ", 300000) + "0\n",
		"1000000 spaces":            "p cnf 1 1\n" + strings.Repeat(" ", 1000000) + "1" + strings.Repeat("\t", 1000000) + "0" + strings.Repeat(" ", 1000000),
		"a comment of 3000000":      "c" + strings.Repeat(" 1 x", 1000000) + "\np cnf 1 1\n1 0",
		"1000000 empty lines":       strings.Repeat("\n", 1000000) + "p cnf 1 1\n1 0",
		"1000000 lines of comments": "p cnf 1 1\n1 0\n" + strings.Repeat("c\n", 1000000),
		"1000000 empty blocks":      "p cnf 1 1\n" + strings.Repeat("a 0\n e 0\n", 500000) + "1 0",
	} {
		if _, clauses, literals := accepted(t, name, s); clauses != 1 || literals < 1 || literals > 3 {
			t.Errorf("%s: %d clauses, %d literals", name, clauses, literals)
		}
	}
	both := "p cnf 1 1\n" + strings.Repeat("1 -1 ", 500000)
	if vars, clauses, _ := accepted(t, "both literals 500000 times", both+"0"); vars+clauses != 0 {
		t.Errorf("%d variables, %d clauses", vars, clauses)
	}
	refusedLong(t, both, 2, api.ErrForm)
	refusedLong(t, both+"2 0", 2, api.ErrRange)
	refusedLong(t, strings.Repeat("\n", 1000000), 1000001, api.ErrForm)
	refusedLong(t, strings.Repeat("7", 1000000), 1, api.ErrForm)
	refusedLong(t, "p cnf 1 1\n"+strings.Repeat("7", 1000000)+" 0", 2, api.ErrForm)
	refusedLong(t, "p cnf 1 1\n-"+strings.Repeat("0", 1000000), 2, api.ErrForm)
}
