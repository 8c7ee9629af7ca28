package qcir_test

import (
	"strings"
	"testing"

	"skolem/api"
	"skolem/qcir"
)

// P8.2: the errors of texts.

// mistake is a text (lines divided by /), the line of its first error, and the error.
type mistake struct {
	text string
	line int
	e    api.Errno
}

// refused holds Read against a mistake.
func refused(t *testing.T, m mistake) {
	t.Helper()
	s := divided(m.text)
	if n, line, e := qcir.Read(s); !isNothing(n) || line != m.line || e != m.e {
		t.Errorf("Read(%.80q) = %.80v, %d, %v", s, n, line, e)
	}
	if _, line, e := naiveRead(s); line != m.line || e != m.e {
		t.Errorf("the naive reading of %.80q: %d, %v", s, line, e)
	}
}

func TestMissing(t *testing.T) {
	for _, text := range []string{"", "/", " ", "//", "  / /", "#", "#/", "# output(1)", "exists(1)", "exists(1)/", "free(1)//#", "free()", "forall(1)/exists()/ ", "exists(1)/#output(1)"} {
		refused(t, mistake{text, 0, api.ErrForm})
	}
}

// TestLines: lines that cannot be read, wherever they stand.
func TestLines(t *testing.T) {
	for _, line := range []string{
		"x", "?", "1", "-1", "-", "(", ")", ",", "=", "()", "(1)", "free", "exists", "forall", "output", "and", "and(1)", "or()", "freed(7)", "frees()", "exist(7)", "existss(7)", "existsforall(7)", "Exists(7)", "EXISTS(7)", "for all(7)", "fo rall(7)", "ex\tists(7)", "exists7(8)", "exists 7(8)", "exists7)", "7exists(8)", "exists_(7)", "existsé(7)", "a(7)", "e(7)", "\uff45xists(7)",
		"exists(7", "exists 7)", "exists 7", "exists((7)", "exists(7))", "exists((7))", "exists[7]", "exists(7);", "exists(7).", "exists(7),", "exists(7) 8", "exists(7)(8)", "exists(7)x", "exists(7)exists(8)", "exists(7)#", "exists(7) # x", "exists(7)-", "exists(7) = and()", "= exists(7)", "exists = (7)", ", exists(7)",
		"exists(,)", "exists(,7)", "exists(7,)", "exists(7,,8)", "exists(7 8)", "exists(7 , , 8)", "exists(7;8)", "exists(7-8)", "exists(7=8)", "exists(-7)", "exists(7, -8)", "exists(--7)", "exists(-)", "exists(+7)", "exists(7, x)", "exists(a)", "exists(seven)", "exists(7a)", "exists(a7)", "exists(7.0)", "exists(0x7)", "exists(7e1)", "exists(7_1)",
		"exists(0)", "exists(00)", "exists(07)", "exists(7, 0)", "exists(7, 08)", "exists(-0)", "exists(65537)", "exists(7, 65537)", "exists(100000)", "exists(0065536)", "exists(655360)", "exists(4294967297)", "exists(18446744073709551617)", "exists(99999999999999999999999999)", "exists(7 7)", "exists(1 2, 3)", "exists(\u0667)", "exists(\uff17)",
		"forall(,)", "forall(7,)", "forall(0)", "forall(-7)", "forall(65537)", "forall(7) 8", "free(,)", "free(7,)", "free(0)", "free(-7)", "free(65537)", "free(7) 8",
		"\t", " \t", "\r", "exists(7)\r", "\texists(7)", "exists\t(7)", "exists(7)\t", "exists(7,\t8)", "exists(\t)", "\v", "\x00", "\xa0", "\u00a0", "exists(7\u00a0)", "exists(7)\x00", "\xff", "\ufeff", "\ufeffexists(7)",
		" #", " # x", "  #QCIR-14", "\t#", "QCIR-14", "-# x", "c", "c x", ";",
	} {
		for _, m := range []mistake{{line, 1, api.ErrForm}, {line + "/output(1)", 1, api.ErrForm}, {"forall(1)/" + line + "/?", 2, api.ErrForm}, {"#//exists(1)/#/" + line + "/output(3)/", 5, api.ErrForm}, {"exists(1)/output(1)/" + line, 3, api.ErrForm}, {"exists(1)/output(1)/2 = and()/" + line + "/", 4, api.ErrForm}} {
			refused(t, m)
		}
	}
}

func TestOutputLines(t *testing.T) {
	for _, line := range []string{"output()", "output( )", "output(,)", "output(1,)", "output(1, 2)", "output(1 2)", "output(--1)", "output(- -1)", "output(-)", "output(+1)", "output(1-)", "output(0)", "output(-0)", "output(01)", "output(-01)", "output(65537)", "output(-65537)", "output(99999999999999999999)", "output(1", "output 1", "output 1)", "output(1))", "output(1) 2", "output(1)output(1)", "output(x)", "output(1x)", "output = (1)", "outputs(1)", "out(1)", "output1(1)", "output(1)\r", "output(\t1)", "output(1) #", "output((1))", "Output(1)", "1 = output(1)"} {
		refused(t, mistake{line, 1, api.ErrForm})
		refused(t, mistake{"exists(1)/" + line, 2, api.ErrForm})
		refused(t, mistake{"exists(1, 2)/ /" + line + "/output(1)", 3, api.ErrForm})
		refused(t, mistake{"exists(1, 2)/output(1)/" + line, 3, api.ErrForm})
	}
}

func TestGateLines(t *testing.T) {
	for line, e := range map[string]api.Errno{
		"3": api.ErrForm, "3 =": api.ErrForm, "3 = and": api.ErrForm, "3 = and(": api.ErrForm, "3 and(1)": api.ErrForm, "3 = = and(1)": api.ErrForm, "= and(1)": api.ErrForm, "and(1) = 3": api.ErrForm, "3 = (1)": api.ErrForm, "3 = and 1": api.ErrForm, "3 = and(1": api.ErrForm, "3 = and 1)": api.ErrForm, "3 = and(1))": api.ErrForm, "3 = and((1))": api.ErrForm, "3 = and(1) 2": api.ErrForm, "3 = and(1)(2)": api.ErrForm, "3 = and(1) 4 = and(2)": api.ErrForm, "3 = and(1) #": api.ErrForm, "3 = and(1)\r": api.ErrForm, "3\t= and(1)": api.ErrForm, "3 == and(1)": api.ErrForm, "3 := and(1)": api.ErrForm,
		"3 = and(,)": api.ErrForm, "3 = and(1,)": api.ErrForm, "3 = and(,1)": api.ErrForm, "3 = and(1,,2)": api.ErrForm, "3 = and(1 2)": api.ErrForm, "3 = and(1 -2)": api.ErrForm, "3 = and(--1)": api.ErrForm, "3 = and(-)": api.ErrForm, "3 = and(-, 1)": api.ErrForm, "3 = and(1-)": api.ErrForm, "3 = and(+1)": api.ErrForm, "3 = and(!1)": api.ErrForm, "3 = and(0)": api.ErrForm, "3 = and(1, -0)": api.ErrForm, "3 = and(01)": api.ErrForm, "3 = and(-01)": api.ErrForm, "3 = and(65537)": api.ErrForm, "3 = and(-65537)": api.ErrForm, "3 = and(-99999999999999999999)": api.ErrForm, "3 = and(x)": api.ErrForm, "3 = and(and(1))": api.ErrForm,
		"-3 = and(1)": api.ErrForm, "0 = and(1)": api.ErrForm, "03 = and(1)": api.ErrForm, "65537 = and(1)": api.ErrForm, "3 4 = and(1)": api.ErrForm, "(3) = and(1)": api.ErrForm, "3, 4 = and(1)": api.ErrForm, "x = and(1)": api.ErrForm, "3x = and(1)": api.ErrForm,
		"3 = nand(1)": api.ErrForm, "3 = not(1)": api.ErrForm, "3 = ands(1)": api.ErrForm, "3 = an d(1)": api.ErrForm, "3 = And(1)": api.ErrForm, "3 = AND(1)": api.ErrForm, "3 = and1(1)": api.ErrForm, "3 = and1, 2)": api.ErrForm, "3 = xnor(1, 2)": api.ErrForm, "3 = exists(1)": api.ErrForm, "3 = output(1)": api.ErrForm, "3 = free(1)": api.ErrForm, "3 = - and(1)": api.ErrForm, "3 = andor(1)": api.ErrForm, "3 = and or(1)": api.ErrForm, "3 = 1": api.ErrForm, "3 = 1(2)": api.ErrForm, "3 = a(1)": api.ErrForm,
		"3 = xor()": api.ErrArg, "3 = xor(1)": api.ErrArg, "3 = xor(1, 2, 1)": api.ErrArg, "3 = xor(1, 1, 1, 1)": api.ErrArg, "3 = ite()": api.ErrArg, "3 = ite(1)": api.ErrArg, "3 = ite(1, 2)": api.ErrArg, "3 = ite(1, 2, 1, 2)": api.ErrArg, "3 = xor(9)": api.ErrArg, "3 = ite(3)": api.ErrArg,
		"2 = xor(1)": api.ErrArg, "1 = ite(1, 2)": api.ErrArg, "3 = xor(1,)": api.ErrForm, "3 = ite(1, 0)": api.ErrForm,
		"1 = and(2)": api.ErrThere, "2 = or(1)": api.ErrThere, "1 = and(9)": api.ErrThere, "2 = or()": api.ErrThere, "1 = and(1)": api.ErrThere, "4 = and(1)": api.ErrThere, "4 = xor(4, 4)": api.ErrThere, "1 = and(0)": api.ErrForm,
		"3 = and(9)": api.ErrNone, "3 = or(1, -9)": api.ErrNone, "3 = xor(9, 1)": api.ErrNone, "3 = xor(1, -65536)": api.ErrNone, "3 = ite(1, 2, 9)": api.ErrNone, "3 = and(3, 9)": api.ErrNone, "3 = and(3, 9, 8)": api.ErrNone,
	} {
		refused(t, mistake{"exists(1, 2)/output(1)/4 = or(1)/" + line, 4, e})
		refused(t, mistake{"free(2)//forall(1)/#/output(-4)/4 = xor(1, 2)/ /" + line + "/5 = or(6)/6 = or(5)/", 8, e})
	}
}

func TestOrderOfLines(t *testing.T) {
	for _, m := range []mistake{
		{"exists(1)/free(2)/output(1)", 2, api.ErrForm}, {"exists()/free(2)/output(1)", 2, api.ErrForm}, {"forall(1)/#/free()/output(1)", 3, api.ErrForm}, {"free(1)/free(2)/output(1)", 2, api.ErrForm}, {"free()/free()/output(1)", 2, api.ErrForm}, {"free(1)/free(1)", 2, api.ErrForm}, {"output(1)/free(1)", 2, api.ErrForm}, {"free(1)/exists(2)/free(3)", 3, api.ErrForm},
		{"output(1)/exists(1)", 2, api.ErrForm}, {"output(1)/forall()", 2, api.ErrForm}, {"exists(1)/output(1)/forall(2)", 3, api.ErrForm}, {"exists(1)/output(1)/2 = and()/exists()", 4, api.ErrForm}, {"exists(1)/output(1)/exists(1)", 3, api.ErrForm}, {"exists(1)/output(1)/2 = and()/free()", 4, api.ErrForm},
		{"exists(1)/output(1)/output(1)", 3, api.ErrForm}, {"exists(1)/output(1)//2 = and()/output(2)", 5, api.ErrForm}, {"output(1)/output(2)/1 = and()", 2, api.ErrForm},
		{"1 = and()", 1, api.ErrForm}, {"1 = and()/output(1)", 1, api.ErrForm}, {"exists(1)/2 = and()/output(1)", 2, api.ErrForm}, {"free(1)/2 = and()", 2, api.ErrForm}, {"exists(1)/1 = xor()", 2, api.ErrForm}, {"#/ /1 = and()/exists(2)/output(2)", 3, api.ErrForm},
	} {
		refused(t, m)
	}
}

func TestThere(t *testing.T) {
	for _, m := range []mistake{
		{"exists(1, 1)", 1, api.ErrThere}, {"forall(2, 1, 2)/output(1)", 1, api.ErrThere}, {"free(3, 3)", 1, api.ErrThere}, {"free(65536, 1, 65536)", 1, api.ErrThere},
		{"exists(1)/exists(1)", 2, api.ErrThere}, {"exists(1)/forall(1)/output(1)", 2, api.ErrThere}, {"forall(1)/exists(2)/forall(3, 1)", 3, api.ErrThere}, {"forall(1)/exists()//forall(2)/#/exists(3, 4, 2, 2)", 6, api.ErrThere},
		{"free(1)/exists(1)", 2, api.ErrThere}, {"free(1)/forall(2)/forall(2, 1)", 3, api.ErrThere}, {"free(1, 2)/forall(3, 2)/?", 2, api.ErrThere},
		{"free(1)/output(1)/1 = and()", 3, api.ErrThere}, {"exists(2)/forall(1)/output(1)/1 = and()", 4, api.ErrThere}, {"exists(1)/output(1)/2 = and()/2 = and()", 4, api.ErrThere}, {"exists(1)/output(1)/2 = and(3)/3 = and(1)/4 = or()/3 = or(2)", 6, api.ErrThere}, {"output(1)/1 = or(1)/1 = or(1)", 3, api.ErrThere},
	} {
		refused(t, m)
	}
}

func TestNone(t *testing.T) {
	for _, m := range []mistake{
		{"output(1)", 1, api.ErrNone}, {"output(-1)", 1, api.ErrNone}, {"///output(65536)", 4, api.ErrNone}, {"exists(1)/output(2)", 2, api.ErrNone}, {"free(1)/forall(3)/#/output(-2)/ ", 4, api.ErrNone}, {"exists()/output(2)/3 = and()", 2, api.ErrNone},
		{"exists(1)/output(2)/3 = and(1)", 2, api.ErrNone}, {"exists(1)/output(2)/3 = and(4)", 2, api.ErrNone}, {"exists(1)/output(2)/3 = and(2)", 2, api.ErrNone}, {"exists(1)/output(3)/3 = and(2)", 3, api.ErrNone}, {"exists(1)/output(1)/3 = and(1)//4 = or(3, -5)/6 = or(7)", 5, api.ErrNone}, {"exists(1)/output(1)/3 = and(4)/4 = or(5)", 4, api.ErrNone},
		{"exists(1)/output(1)/3 = and(4)/4 = or(3, 5)", 4, api.ErrNone}, {"exists(1)/output(1)/3 = and(3, 2)", 3, api.ErrNone}, {"output(2)/3 = and(3)", 1, api.ErrNone},
	} {
		refused(t, m)
	}
}

func TestCycle(t *testing.T) {
	for _, text := range []string{
		"output(4)/4 = or(5)/5 = or(4)", "output(1)/1 = and(1)", "output(1)/1 = and(-1)", "exists(2)/output(1)/1 = xor(2, 1)", "exists(1)/output(1)/2 = ite(1, 1, -2)", "exists(1)/output(1)/2 = and(1)/3 = or(4)/4 = or(3)/5 = or(2)", "exists(1)/output(1)/2 = and(1)/3 = or(2, 5)/4 = or(3)/5 = or(-4, 1)", "exists(1)/output(2)/2 = and(1)/3 = or(3)/", "output(3)/3 = and()/4 = xor(3, 5)/5 = xor(4, 3)/6 = or(5)",
	} {
		refused(t, mistake{text, 0, api.ErrCycle})
	}
}

// TestFirstOfTwo: of two lines with errors the first one decides; in a line the first error of the section does, not the first token.
func TestFirstOfTwo(t *testing.T) {
	errors := map[string]api.Errno{"exists(1, 1)": api.ErrThere, "forall(9, 2)": api.ErrThere, "free(7)": api.ErrForm, "exists(7": api.ErrForm, "exists(0)": api.ErrForm, "3 = and()": api.ErrForm, "output()": api.ErrForm}
	for one, e := range errors {
		for two := range errors {
			refused(t, mistake{"exists(2)/" + one + "/" + two + "/output(8)", 2, e})
		}
	}
	errors = map[string]api.Errno{"1 = and()": api.ErrThere, "5 = or(9)/5 = or()": api.ErrThere, "3 = xor(9)": api.ErrArg, "1 = ite()": api.ErrArg, "3 = ()": api.ErrForm, "exists(3)": api.ErrForm, "output(1)": api.ErrForm}
	for one, e := range errors {
		for two := range errors {
			refused(t, mistake{"exists(1)/output(9)/" + one + "/" + two + "/4 = or(4)", 3 + strings.Count(one, "/"), e})
		}
	}
	for _, m := range []mistake{
		{"exists(1, 1, 0)", 1, api.ErrForm}, {"exists(1, 1", 1, api.ErrForm}, {"exists(1, 1) x", 1, api.ErrForm}, {"exists(1)/free(1)", 2, api.ErrForm}, {"exists(1)/free(2, 2)", 2, api.ErrForm}, {"exists(1)/output(1)/exists(1)", 3, api.ErrForm}, {"exists(1)/1 = xor(1)", 2, api.ErrForm}, {"exists(1)/1 = and(1)", 2, api.ErrForm},
		{"exists(1)/output(1)/1 = xor(1) 2", 3, api.ErrForm}, {"exists(1)/output(1)/1 = xor(0)", 3, api.ErrForm}, {"exists(1)/output(1)/1 = xor(9)", 3, api.ErrArg}, {"exists(1)/output(1)/1 = and(9)", 3, api.ErrThere},
		{"exists(1)/output(9)/?", 3, api.ErrForm}, {"exists(1)/output(9)/2 = or(8)/2 = or()", 4, api.ErrThere}, {"exists(1)/output(1)/2 = or(8)/3 = ite()", 4, api.ErrArg},
		{"output(2)/3 = or(3)", 1, api.ErrNone}, {"output(3)/3 = or(3)/4 = or(5)", 3, api.ErrNone}, {"exists(1)/forall(1)", 2, api.ErrThere}, {"exists(1)/3 = or(3)", 2, api.ErrForm},
	} {
		refused(t, m)
	}
}
