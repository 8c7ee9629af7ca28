package dimacs_test

import (
	"testing"

	"skolem/api"
	"skolem/dimacs"
)

// P7.2: the errors of texts.

// mistake is a text (lines divided by /), its first line that is not as it must be, and the error.
type mistake struct {
	text string
	line int
	e    api.Errno
}

// refused holds both functions against a mistake.
func refused(t *testing.T, m mistake) {
	t.Helper()
	s := divided(m.text)
	if q, line, e := dimacs.Read(s); !isNothing(q) || line != m.line || e != m.e {
		t.Errorf("Read(%.80q) = %v, %d, %v", s, q, line, e)
	}
	refusedDeps(t, m)
}

// refusedDeps holds ReadDeps against a mistake.
func refusedDeps(t *testing.T, m mistake) {
	t.Helper()
	s := divided(m.text)
	if d, line, e := dimacs.ReadDeps(s); !isNoDqbf(d) || line != m.line || e != m.e {
		t.Errorf("ReadDeps(%.80q) = %v, %d, %v", s, d, line, e)
	}
	if _, line, e := naiveReadDeps(s); line != m.line || e != m.e {
		t.Errorf("the naive reading of %.80q: %d, %v", s, line, e)
	}
}

func TestMissing(t *testing.T) {
	for _, m := range []mistake{
		{"", 1, api.ErrForm}, {" ", 1, api.ErrForm}, {"/", 2, api.ErrForm}, {"//", 3, api.ErrForm}, {"//\t ", 3, api.ErrForm},
		{"c only this", 1, api.ErrForm}, {"c/", 2, api.ErrForm}, {"c/c", 2, api.ErrForm}, {"c//c/ ", 4, api.ErrForm},
		{"p cnf 2 1", 1, api.ErrForm}, {"p cnf 2 1/", 2, api.ErrForm}, {"p cnf 2 1/c", 2, api.ErrForm}, {"p cnf 2 1/c/ /", 4, api.ErrForm},
		{"p cnf 2 1/e 1 0", 2, api.ErrForm}, {"p cnf 2 1/e 1 0/", 3, api.ErrForm},
		{"p cnf 2 2/1 0", 2, api.ErrForm}, {"p cnf 2 2/1 0/", 3, api.ErrForm}, {"p cnf 2 2/1 -1 0/", 3, api.ErrForm}, {"p cnf 2 20000/1 0//", 4, api.ErrForm},
	} {
		refused(t, m)
	}
}

func TestHeader(t *testing.T) {
	for _, text := range []string{
		"p", "p cnf", "p cnf 1", "p cnf 1/1 1", "p cnf 1 1 1", "p cnf 1 0 0", "p cnf 1 0 c", "p cnf 0 0 x", "p dnf 1 1", "p CNF 1 0", "p cnf1 0", "p 1 0", "p p 1 0", "P cnf 1 0", "pcnf 1 0", "cnf 1 0", "x", "q cnf 1 0",
		"1 0", "0", "a 1 0", "e 0", "d 1 0", "a", "cnf", "cp cnf 0 0", "cc", "c1", "c\r", "c\v/p cnf 0 0",
		"p cnf x 0", "p cnf 0 x", "p cnf 01 0", "p cnf 1 00", "p cnf -0 0", "p cnf 0 -0", "p cnf +1 0", "p cnf 0 +1", "p cnf - 0", "p cnf 0 -", "p cnf 1000000000 0", "p cnf 0 1000000000", "p cnf 0x1 0", "p cnf 1.0 0", "p cnf 1e1 0", "p cnf 1_0 0", "p cnf 1, 0",
		"p cnf 0 0\r", "p cnf 0 0\r/", "p\rcnf 0 0", "p\vcnf 0 0", "p cnf 0\f0", "p\x00cnf 0 0", "p cnf 0\xa00", "p cnf 0\u00a00", "\ufeffp cnf 0 0", "p cnf ١ 0", "p cnf １ 0", "p cnf 1 \xff",
		"p cnf x -1", "p cnf 1 x 1", "p x -1 0", "x cnf -1 0",
	} {
		refused(t, mistake{text, 1, api.ErrForm})
		refused(t, mistake{"c x//" + text, 3, api.ErrForm})
	}
	for _, text := range []string{"p cnf -1 0", "p cnf 0 -1", "p cnf 65537 0", "p cnf 0 20001", "p cnf 999999999 0", "p cnf -999999999 0", "p cnf 0 999999999", "p cnf -1", "p cnf 65537", "p cnf -1 x", "p cnf 65537 20001 x", "p cnf 1 20001 x", "p cnf 1 -1 0 0"} {
		refused(t, mistake{text, 1, api.ErrRange})
		refused(t, mistake{"\t/" + text + "/x", 2, api.ErrRange})
	}
}

func TestPrefixLines(t *testing.T) {
	for _, letter := range []string{"a", "e"} {
		for line, e := range map[string]api.Errno{
			"": api.ErrForm, "1": api.ErrForm, "1 2": api.ErrForm, "0 0": api.ErrForm, "0 1": api.ErrForm, "1 0 2 0": api.ErrForm, "1 0 0": api.ErrForm, "1 0 x": api.ErrForm, "0 x": api.ErrForm, "1 0 c": api.ErrForm, "1 0 3": api.ErrForm, "1 0 1 0": api.ErrForm,
			"x 0": api.ErrForm, "1 x 0": api.ErrForm, "1 x 3 0": api.ErrForm, "1 x 1 0": api.ErrForm, "-0": api.ErrForm, "00": api.ErrForm, "01 0": api.ErrForm, "+1 0": api.ErrForm, "-01 0": api.ErrForm, "1 - 0": api.ErrForm, "--1 0": api.ErrForm, "1- 0": api.ErrForm, "1000000000 0": api.ErrForm, "-1000000000 0": api.ErrForm, "1 0\r": api.ErrForm, "1\r 0": api.ErrForm, "1,2 0": api.ErrForm, "e 0": api.ErrForm, "1 a 2 0": api.ErrForm, "0000000000": api.ErrForm, "0000000001 0": api.ErrForm,
			"3 0": api.ErrRange, "-1 0": api.ErrRange, "-3 0": api.ErrRange, "1 3 0": api.ErrRange, "1 -1 0": api.ErrRange, "65536 0": api.ErrRange, "999999999 0": api.ErrRange, "-999999999 0": api.ErrRange, "3 x 0": api.ErrRange, "3": api.ErrRange, "1 3 1 0": api.ErrRange, "3 0 0": api.ErrRange,
			"1 1 0": api.ErrThere, "1 2 1 0": api.ErrThere, "2 2 0": api.ErrThere, "1 1": api.ErrThere, "1 1 x": api.ErrThere, "1 1 3 0": api.ErrThere,
		} {
			refused(t, mistake{"p cnf 2 0/" + letter + " " + line, 2, e})
			refused(t, mistake{"p cnf 2 1/c//" + letter + " " + line + "/x", 4, e})
		}
		for _, other := range []string{"a", "e"} {
			refused(t, mistake{"p cnf 2 0/" + letter + " 1 0/" + other + " 1 0", 3, api.ErrThere})
			refused(t, mistake{"p cnf 2 0/" + letter + " 1 0/" + other + " 2 1 0/x", 3, api.ErrThere})
			refused(t, mistake{"p cnf 2 0/" + letter + " 1 2 0//" + other + " 0/" + other + " 2", 5, api.ErrThere})
		}
		for _, line := range []string{" 2 0", " 0", "", " 3 0", " 1 0", " x"} {
			refused(t, mistake{"p cnf 2 1/" + letter + " 1 0/1 0/" + letter + line, 4, api.ErrForm})
			refused(t, mistake{"p cnf 2 2/" + letter + " 1 0/1 -1 0/" + letter + line + "/1 0", 4, api.ErrForm})
		}
		refused(t, mistake{"p cnf 0 0/" + letter + " 1 0", 2, api.ErrRange})
		refused(t, mistake{"p cnf 65536 0/" + letter + " 65536 65537 0", 2, api.ErrRange})
		refused(t, mistake{"p cnf 65536 0/" + letter + " 65536 65536 0", 2, api.ErrThere})
	}
}

func TestClauseLines(t *testing.T) {
	for line, e := range map[string]api.Errno{
		"1": api.ErrForm, "1 2": api.ErrForm, "0 0": api.ErrForm, "0 1": api.ErrForm, "0 1 0": api.ErrForm, "1 0 2 0": api.ErrForm, "1 2 0 0": api.ErrForm, "1 0 x": api.ErrForm, "1 0 c": api.ErrForm, "1 0 3": api.ErrForm,
		"x": api.ErrForm, "x 0": api.ErrForm, "1 x": api.ErrForm, "1 x 3": api.ErrForm, "-0": api.ErrForm, "1 -0": api.ErrForm, "1 -0 0": api.ErrForm, "00": api.ErrForm, "01 0": api.ErrForm, "-01 0": api.ErrForm, "+1 0": api.ErrForm, "+0": api.ErrForm, "- 1 0": api.ErrForm, "-": api.ErrForm, "+": api.ErrForm, "--1 0": api.ErrForm, "1-2 0": api.ErrForm, "1 1000000000 0": api.ErrForm, "1 -1000000000 0": api.ErrForm, "1 0000000000": api.ErrForm, "0000000001 0": api.ErrForm, "1 99999999999999999999999 0": api.ErrForm, "1 0\r": api.ErrForm, "\r": api.ErrForm, "\v": api.ErrForm, "\x00": api.ErrForm, "\xa0": api.ErrForm, "\u00a0": api.ErrForm, "1 \xff 0": api.ErrForm, "1 ２ 0": api.ErrForm, "1 2.0 0": api.ErrForm, "1e0 0": api.ErrForm, "0x1 0": api.ErrForm, "1_1 0": api.ErrForm, "1a 0": api.ErrForm, "1 a 0": api.ErrForm, "1 c": api.ErrForm, "p cnf 2 1": api.ErrForm, "b 1 0": api.ErrForm, "ae 1 0": api.ErrForm, "A 1 0": api.ErrForm, "cnf": api.ErrForm, "c0": api.ErrForm, "c-": api.ErrForm,
		"3 0": api.ErrRange, "-3 0": api.ErrRange, "1 3 0": api.ErrRange, "65536 0": api.ErrRange, "1 65537 0": api.ErrRange, "1 999999999 0": api.ErrRange, "1 -999999999 0": api.ErrRange, "3 x": api.ErrRange, "3": api.ErrRange, "-3 0 0": api.ErrRange, "1 1 -1 3 0": api.ErrRange,
	} {
		refused(t, mistake{"p cnf 2 1/" + line, 2, e})
		refused(t, mistake{"p cnf 2 3/e 2 1 0//c/1 0/" + line + "/e", 6, e})
	}
	for _, line := range []string{"1 0", "0", "3 0", "1", "-1 1 0", "x", "p cnf 2 1"} {
		refused(t, mistake{"p cnf 2 0/" + line, 2, api.ErrForm})
		refused(t, mistake{"p cnf 2 1/1 0/ /" + line, 4, api.ErrForm})
		refused(t, mistake{"p cnf 2 2/1 -1 0/2 0/" + line, 4, api.ErrForm})
	}
	refused(t, mistake{"p cnf 0 1/1 0", 2, api.ErrRange})
	refused(t, mistake{"p cnf 65536 1/-65536 65537 0", 2, api.ErrRange})
	refused(t, mistake{"p cnf 1 1/2 0", 2, api.ErrRange})
	refused(t, mistake{"p cnf 1 1/1", 2, api.ErrForm})
	refused(t, mistake{"p cnf 1 0/e 1 1 0", 2, api.ErrThere})
}

func TestDepsLines(t *testing.T) {
	for line, e := range map[string]api.Errno{
		"": api.ErrForm, "0": api.ErrForm, "0 0": api.ErrForm, "0 4 0": api.ErrForm, "4": api.ErrForm, "4 1": api.ErrForm, "4 1 0 0": api.ErrForm, "4 0 1 0": api.ErrForm, "4 0 0": api.ErrForm, "x 0": api.ErrForm, "4 x 0": api.ErrForm, "4 1 x 9 0": api.ErrForm, "4 -0": api.ErrForm, "4 01 0": api.ErrForm, "4 +1 0": api.ErrForm, "4 1000000000 0": api.ErrForm, "4 0\r": api.ErrForm, "d 4 0": api.ErrForm,
		"6 0": api.ErrRange, "-4 0": api.ErrRange, "6 6 0": api.ErrRange, "6": api.ErrRange, "4 6 0": api.ErrRange, "4 -1 0": api.ErrRange, "4 1 6 0": api.ErrRange, "4 999999999 0": api.ErrRange, "4 6 x": api.ErrRange, "4 6 3 0": api.ErrRange, "4 1 6 1 0": api.ErrRange, "4 -999999999": api.ErrRange,
		"1 0": api.ErrThere, "3 0": api.ErrThere, "1 1 0": api.ErrThere, "3 1 0": api.ErrThere, "3": api.ErrThere, "1 6 0": api.ErrThere, "4 1 1 0": api.ErrThere, "4 2 1 2 0": api.ErrThere, "4 1 1": api.ErrThere, "4 1 1 3 0": api.ErrThere, "4 1 1 6 0": api.ErrThere,
		"4 3 0": api.ErrNone, "4 5 0": api.ErrNone, "4 4 0": api.ErrNone, "4 1 5 0": api.ErrNone, "4 1 4 0": api.ErrNone, "4 3 3 0": api.ErrNone, "4 5 1 1 0": api.ErrNone, "4 5": api.ErrNone, "4 5 6 0": api.ErrNone, "4 3 x": api.ErrNone,
	} {
		refusedDeps(t, mistake{"p cnf 5 0/a 1 2 0/e 3 0/d " + line, 4, e})
		refusedDeps(t, mistake{"p cnf 5 1/a 1 0//a 2 0/d 3 1 0/c/d " + line + "/a 5 0", 7, e})
	}
	for _, m := range []mistake{
		{"p cnf 2 0/d 2 1 0/a 1 0", 2, api.ErrNone}, {"p cnf 2 0/a 1 0/d 2 1 0/d 2 1 0", 4, api.ErrThere}, {"p cnf 2 0/d 2 0/a 2 0", 3, api.ErrThere}, {"p cnf 2 0/d 2 0/e 1 2 0", 3, api.ErrThere}, {"p cnf 2 0/d 2 0/d 1 2 0", 3, api.ErrNone},
		{"p cnf 2 1/1 0/d 2 0", 3, api.ErrForm}, {"p cnf 2 2/1 -1 0/d 3 0/1 0", 3, api.ErrForm}, {"p cnf 2 1/1 0/d", 3, api.ErrForm}, {"d 1 0/p cnf 1 0", 1, api.ErrForm}, {"p cnf 2 1/d 2 0/", 3, api.ErrForm}, {"p cnf 2 0/d1 0", 2, api.ErrForm}, {"p cnf 2 0/d 1 0/dd 2 0", 3, api.ErrForm},
	} {
		refusedDeps(t, m)
	}
}

// TestDepsLinesOfQbf: in a QDIMACS text no line begins with d.
func TestDepsLinesOfQbf(t *testing.T) {
	for _, text := range []string{"d 2 1 0", "d 2 0", "d 0", "d", "d 9 0", "d 1 0", "d x"} {
		for _, c := range []string{"0", "1"} {
			s := divided("p cnf 2 " + c + "/a 1 0/" + text + "/1 0")
			if q, line, e := dimacs.Read(s); !isNothing(q) || line != 3 || e != api.ErrForm {
				t.Errorf("Read(%q) = %v, %d, %v", s, q, line, e)
			}
		}
	}
}

// TestFirstOfTwo: of two lines with errors the first one decides, and in a line the first word.
func TestFirstOfTwo(t *testing.T) {
	for line, e := range map[string]api.Errno{"a 1 1 0": api.ErrThere, "a 3 0": api.ErrRange, "a x": api.ErrForm, "e 2": api.ErrForm} {
		for _, other := range []string{"a 1 1 0", "a 3 0", "a x", "x", "1 0", "3 0", "p cnf 1 1"} {
			refused(t, mistake{"p cnf 2 0/" + line + "/" + other, 2, e})
		}
	}
	for words, e := range map[string]api.Errno{"3 2 2 x": api.ErrRange, "3 x 2 2": api.ErrRange, "2 2 3 x": api.ErrThere, "2 2 x 3": api.ErrThere, "x 3 2 2": api.ErrForm, "x 2 2 3": api.ErrForm, "2 3 2 x": api.ErrRange, "2 x 2 3": api.ErrForm} {
		for _, last := range []string{"", " 0", " 0 0", " x"} {
			refused(t, mistake{"p cnf 2 0/e " + words + last, 2, e})
		}
	}
	for line, e := range map[string]api.Errno{"2 3 2": api.ErrRange, "2 1 1 2": api.ErrThere, "2 1 2 1": api.ErrNone, "2 1 x 2": api.ErrForm, "1 2": api.ErrThere} {
		refusedDeps(t, mistake{"p cnf 2 0/a 1 0/d " + line + "/x", 3, e})
	}
}
