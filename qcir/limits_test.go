package qcir_test

import (
	"slices"
	"strconv"
	"strings"
	"testing"

	"skolem/api"
	"skolem/circ"
	"skolem/qcir"
)

// P8.2, at the limits. The naive functions take too much time for some of these texts, which refusedLong and accepted do without.

func refusedLong(t *testing.T, name, s string, line int, want api.Errno) {
	t.Helper()
	if n, at, e := qcir.Read(s); !isNothing(n) || at != line || e != want {
		t.Errorf("Read of %s: %d, %v", name, at, e)
	}
}

// accepted reads a text, which must be taken, and returns how many variables and literals its net has.
func accepted(t *testing.T, name, s string) (vars, literals int) {
	t.Helper()
	n, line, e := qcir.Read(s)
	if line != 0 || e != api.OK || !circ.May(n) {
		t.Errorf("Read of %s: %d, %v", name, line, e)
	}
	for _, b := range n.Prefix {
		vars += len(b.Vars)
	}
	for _, g := range n.Gates {
		literals += len(g.In)
	}
	return vars, literals
}

// oneByOne returns lines of one variable each, which begin with one word after the other.
func oneByOne(n int, words ...string) string {
	var s strings.Builder
	for v := 1; v <= n; v++ {
		s.WriteString(words[v%len(words)] + listOf([]int{v}) + "\n")
	}
	return s.String()
}

func TestVariablesAtLimits(t *testing.T) {
	half, rest := listOf(variables(1, 512)), listOf(variables(65025, 65536))
	for name, s := range map[string]string{
		"free":               "free" + listOf(variables(1, 1024)),
		"exists":             "exists" + listOf(append(variables(64514, 65536), 1)),
		"forall":             "forall" + listOf(variables(1, 1024)),
		"free and exists":    "free" + half + "\nexists" + rest,
		"free and forall":    "free" + half + "\nforall" + rest,
		"exists and forall":  "#\nexists" + half + "\n\nforall" + rest + "\nexists()",
		"one by one":         oneByOne(1024, "exists", "forall") + "#",
		"one by one, as one": oneByOne(1024, "forall") + "exists()\nforall()",
	} {
		for _, more := range []string{"", "exists()\n", "forall()\nexists()\n"} {
			if vars, _ := accepted(t, name, s+"\n"+more+"output(-1)\n30000 = or(1)\n"); vars != 1024 {
				t.Errorf("%s: %d variables", name, vars)
			}
		}
		line := strings.Count(s, "\n") + 2
		for more, e := range map[string]api.Errno{"exists(30000)": api.ErrLong, "forall(30000)": api.ErrLong, "forall(30000, 30001)": api.ErrLong, "exists(1, 1)": api.ErrThere, "exists(30000, 30000)": api.ErrThere, "exists(30000, 0)": api.ErrForm, "free(30000)": api.ErrForm, "exists(30000)\n?": api.ErrLong, "exists(30000)\noutput(30001)": api.ErrLong} {
			refusedLong(t, name+" and "+more, s+"\n"+more, line, e)
		}
	}
	for name, s := range map[string]string{
		"free":   "free" + listOf(variables(1, 1025)),
		"exists": "exists" + listOf(variables(64512, 65536)),
		"forall": "forall" + listOf(variables(1, 1025)),
		"all":    "exists" + listOf(variables(1, 65536)),
	} {
		refusedLong(t, name, s, 1, api.ErrLong)
		refusedLong(t, name, "\n#\n"+s+"\noutput(1)", 3, api.ErrLong)
		refusedLong(t, name+", one twice", strings.Replace(s, ")", ", 65530, 1024, 65530)", 1), 1, api.ErrThere)
		refusedLong(t, name+", not ended", strings.TrimSuffix(s, ")"), 1, api.ErrForm)
	}
	refusedLong(t, "one by one", oneByOne(65536, "exists"), 1025, api.ErrLong)
}

func TestLiteralsAtLimits(t *testing.T) {
	ones := func(n int) string { return listOf(slices.Repeat([]int{-1}, n)) }
	begin := "exists(1)\noutput(1)\n"
	for name, s := range map[string]string{
		"one gate":       "2 = and" + ones(200000),
		"two gates":      "2 = and" + ones(123456) + "\n3 = or" + ones(76544),
		"and empty ones": "2 = and()\n3 = and" + ones(199997) + "\n4 = or()\n5 = ite(1, 2, 3)\n6 = or()",
	} {
		if _, literals := accepted(t, name, begin+s); literals != 200000 {
			t.Errorf("%s: %d literals", name, literals)
		}
		line := strings.Count(begin+s, "\n") + 2
		for more, e := range map[string]api.Errno{"9 = and(1)": api.ErrLong, "9 = or(8)": api.ErrLong, "9 = xor(1, 1)": api.ErrLong, "9 = ite(1, 1, 1)\n?": api.ErrLong, "9 = xor(1)": api.ErrArg, "1 = and(1)": api.ErrThere, "2 = or(1)": api.ErrThere, "9 = and(0)": api.ErrForm, "exists(7)": api.ErrForm} {
			refusedLong(t, name+" and "+more, begin+s+"\n"+more, line, e)
		}
		accepted(t, name+" and one without literals", begin+s+"\n9 = and()\n\n#")
	}
	for name, s := range map[string]string{"and": "2 = and" + ones(200001), "or": "2 = or" + ones(300000), "as many as there is room for": "2=and(" + strings.Repeat("1,", 2000000) + "1)"} {
		refusedLong(t, name, begin+s, 3, api.ErrLong)
		refusedLong(t, name, begin+s+"\n?", 3, api.ErrLong)
		refusedLong(t, name+", not ended", begin+strings.TrimSuffix(s, ")"), 3, api.ErrForm)
		refusedLong(t, name+", to the left of it 1", begin+"1"+s[1:], 3, api.ErrThere)
	}
	refusedLong(t, "xor of too many", begin+"2 = xor"+ones(200001), 3, api.ErrArg)
	refusedLong(t, "ite of too many", begin+"2 = ite"+ones(200001), 3, api.ErrArg)
	refusedLong(t, "a variable many times", "exists("+strings.Repeat("1,", 2000000)+"1)", 1, api.ErrThere)
}

// TestGatesAtLimits: each variable is that of a gate, and each gate uses the one behind it, or the one in front of it.
func TestGatesAtLimits(t *testing.T) {
	up, down, alone := strings.Builder{}, strings.Builder{}, strings.Builder{}
	for v := 1; v < 65536; v++ {
		own, next := strconv.Itoa(v), strconv.Itoa(v+1)
		up.WriteString(own + " = xor(" + next + ", -" + next + ")\n")
		down.WriteString(next + " = and(" + own + ", 1, -" + own + ")\n")
		alone.WriteString(next + " = or(" + "1)\n")
	}
	for name, s := range map[string]string{
		"up":    "exists(65536)\noutput(1)\n" + up.String(),
		"down":  "exists(1)\noutput(-65536)\n" + down.String(),
		"alone": "forall(1)\noutput(65536)\n" + alone.String(),
	} {
		accepted(t, name, s)
	}
	refusedLong(t, "a long circle", "output(1)\n"+up.String()+"65536 = or(1)", 0, api.ErrCycle)
	refusedLong(t, "none at the end", "output(1)\n"+up.String(), 65536, api.ErrNone)
	refusedLong(t, "one more", "forall(1)\noutput(65536)\n"+alone.String()+"65536 = and()", 65538, api.ErrThere)
}

func TestTextAtLimits(t *testing.T) {
	const most = 4194304
	s := "exists(1)\noutput(1)\n"
	for name, part := range map[string]string{"spaces": " ", "line feeds": "\n", "blank lines": " \n", "a comment": "#", "comments": "#\n"} {
		fill := strings.Repeat(part, most)[:most]
		accepted(t, name+" behind", s+fill[len(s):])
		for _, text := range []string{s + fill[len(s)-1:], fill + "x", fill + s, s + fill, "x" + fill} {
			refusedLong(t, name+" too many", text, 0, api.ErrLong)
		}
		refusedLong(t, name+" alone", fill, 0, api.ErrForm)
	}
	for name, part := range map[string]string{"line feeds": "\n", "empty blocks": "exists()\n", "others": " forall ( ) \n", "comments": "#\n"} {
		front := strings.Repeat(part, (most-len(s))/len(part))
		fill := strings.Repeat(" ", most-len(s)-len(front))
		accepted(t, name+" in front", front+s+fill)
		refusedLong(t, name+" in front, too many", front+s+fill+" ", 0, api.ErrLong)
	}
	wide := "exists(" + strings.Repeat(" ", most-len(s)) + s[7:]
	accepted(t, "a wide list", wide)
	refusedLong(t, "a wider list", " "+wide, 0, api.ErrLong)
	refusedLong(t, "what cannot be read", strings.Repeat("?", most), 1, api.ErrForm)
	refusedLong(t, "too much of it", strings.Repeat("?", most+1), 0, api.ErrLong)
}

// TestLongLines: lines of one token again and again, which cannot be read.
func TestLongLines(t *testing.T) {
	for _, token := range []string{"a", "7", "0", "(", ",", "-", ")", "=", "7 ", "a ", "-7,", "\xff", "exists("} {
		long := strings.Repeat(token, 1000000/len(token))
		for _, begin := range []string{"", "exists(", "exists(7, ", "output(", "output(-", "free"} {
			refusedLong(t, begin+token+" many times", begin+long, 1, api.ErrForm)
		}
		for _, begin := range []string{"", "2 = ", "2 = and(", "2 = and(1, ", "2", "2 = or"} {
			refusedLong(t, begin+token+" many times", "exists(1)\noutput(1)\n"+begin+long+"\n", 3, api.ErrForm)
		}
	}
}
