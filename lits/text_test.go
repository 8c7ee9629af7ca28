package lits_test

import (
	"math"
	"slices"
	"strings"
	"testing"

	"skolem/api"
	"skolem/lits"
)

// P1.3

func TestText(t *testing.T) {
	for _, c := range []struct {
		l    []int
		want string
		e    api.Errno
	}{
		{nil, "", api.OK}, {[]int{}, "", api.OK}, {[]int{-1, 3}, "-1 3", api.OK}, {[]int{1}, "1", api.OK}, {[]int{-65536}, "-65536", api.OK}, {[]int{10, -200, 3000, -65535, 65536}, "10 -200 3000 -65535 65536", api.OK},
		{[]int{2, 1}, "", api.ErrArg}, {[]int{1, 1}, "", api.ErrArg}, {[]int{-1, 1}, "", api.ErrArg}, {[]int{0}, "", api.ErrArg}, {[]int{1, 65537}, "", api.ErrArg}, {[]int{math.MinInt}, "", api.ErrArg}, {[]int{math.MaxInt}, "", api.ErrArg},
	} {
		if got, e := lits.Text(c.l); got != c.want || e != c.e {
			t.Errorf("Text(%v) = %q, %v", c.l, got, e)
		}
	}
}

func TestReadOfNoText(t *testing.T) {
	for _, s := range []string{
		"1 2 ", "01", "2 1", "-0", // the chapter's
		" ", "  ", "1 ", " 1", "1  2", "1\t2", "1\n", "\n", "1,2", "1.0", "+1", "x", "1x", "0x1", "1e3", "1_0",
		"0", "00", "-01", "001", "1 02", "1 0", "-", "- 1", "--1", "1-", "1-2", "-1-", "1 -", "- ", "-1 - 2",
		"1 1", "1 -1", "-1 1", "3 1 2", "1 3 2",
		"65537", "-65537", "1 65537", "100000", "4294967297", "18446744073709551617", "-9223372036854775808", "9223372036854775807", "340282366920938463463374607431768211457",
		"\xff", "1 \xff", "\x00", "1\x00", "é", "١", "１", "−1", "1\u00a02",
		strings.Repeat("1", 1000000), strings.Repeat(" ", 1000000), strings.Repeat("-", 1000000), strings.Repeat("1 ", 1000000), strings.Repeat("0", 1000000) + "1",
	} {
		if l, e := lits.Read(s); l != nil || e != api.ErrForm {
			t.Errorf("Read(%.40q) = %v, %v", s, l[:min(9, len(l))], e)
		}
	}
}

func TestReadOfTexts(t *testing.T) {
	some := append(normalLists(1, 9, 10, 65536), normalLists(2, 99, 100, 60000, 65535)...)
	for _, l := range append(some, variables(1, 65536), lits.Neg(variables(1, 65536))) {
		s := naiveText(l)
		if text, e := lits.Text(l); text != s || e != api.OK {
			t.Errorf("Text of %d elements: %.40q, %v", len(l), text, e)
		}
		if got, e := lits.Read(s); !slices.Equal(got, l) || e != api.OK {
			t.Errorf("Read(%.40q) = %d elements, %v", s, len(got), e)
		}
	}
}

// TestReadOfShortStrings goes through all strings of some letters: what is read has that text and no other, and texts are read.
func TestReadOfShortStrings(t *testing.T) {
	texts := map[string]bool{}
	for _, l := range append(listsOf(3, -21, -12, -2, -1, 1, 2, 11, 12, 20, 21), []int{-112}, []int{121}) {
		if naiveMay(l) {
			texts[naiveText(l)] = true
		}
	}
	strs := []string{""}
	for from, n := 0, 0; n < 5; n++ {
		to := len(strs)
		for _, s := range strs[from:to] {
			for _, letter := range " -012+" {
				strs = append(strs, s+string(letter))
			}
		}
		from = to
	}
	read := map[string]bool{}
	for _, s := range strs {
		l, e := lits.Read(s)
		if e == api.OK {
			read[s] = true
			if !naiveMay(l) || naiveText(l) != s {
				t.Errorf("Read(%q) = %v", s, l)
			}
		} else if l != nil || e != api.ErrForm {
			t.Errorf("Read(%q) = %v, %v", s, l, e)
		}
	}
	for s := range texts {
		if len(s) <= 5 && !read[s] {
			t.Errorf("%q is a text, but is not read", s)
		}
	}
}
