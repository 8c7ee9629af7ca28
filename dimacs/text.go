package dimacs

import (
	"iter"
	"slices"
	"strconv"
	"strings"
)

// lines tells the lines of a text, each with its number, from 1 on; what stands behind the last line feed is one, too.
func lines(s string) iter.Seq2[int, string] {
	return func(yield func(n int, line string) bool) {
		rest, more := s, true
		for n := 1; more; n++ {
			var line string
			line, rest, more = strings.Cut(rest, "\n")
			if !yield(n, line) {
				return
			}
		}
	}
}

// words tells the words of a line, each with its number, from 0 on.
func words(line string) iter.Seq2[int, string] {
	return func(yield func(n int, word string) bool) {
		n, from := 0, 0
		for i := 0; i <= len(line); i++ {
			if i < len(line) && line[i] != ' ' && line[i] != '\t' {
				continue
			}
			if from < i {
				if !yield(n, line[from:i]) {
					return
				}
				n++
			}
			from = i + 1
		}
	}
}

// firstWord returns the first word of a line; "": it has none.
func firstWord(line string) string {
	for _, word := range words(line) {
		return word
	}
	return ""
}

// maxDigits is how many digits a number may have, so that every number is an int.
const maxDigits = 9

// number returns the number that a word is; false: it is none.
func number(word string) (int, bool) {
	digits := strings.TrimPrefix(word, "-")
	if digits == "" || len(digits) > maxDigits || digits[0] == '0' && word != "0" {
		return 0, false
	}
	n := 0
	for i := range len(digits) {
		if digits[i] < '0' || digits[i] > '9' {
			return 0, false
		}
		n = 10*n + int(digits[i]-'0')
	}
	if len(digits) < len(word) {
		n = -n
	}
	return n, true
}

// appendLine puts a line at the end of a text: what it begins with, the numbers of some lists, and 0.
func appendLine(text []byte, begin string, lists ...[]int) []byte {
	text = append(text, begin...)
	for _, l := range lists {
		for _, n := range l {
			text = strconv.AppendInt(text, int64(n), 10)
			text = append(text, ' ')
		}
	}
	return append(text, "0\n"...)
}

// appendHeader puts the header of a formula with these variables at the end of a text.
func appendHeader(text []byte, vars []int, clauses [][]int) []byte {
	greatest := 0
	if len(vars) > 0 {
		greatest = slices.Max(vars)
	}
	text = append(text, "p cnf "...)
	text = strconv.AppendInt(text, int64(greatest), 10)
	text = append(text, ' ')
	text = strconv.AppendInt(text, int64(len(clauses)), 10)
	return append(text, '\n')
}

// appendClauses puts the lines of clauses at the end of a text.
func appendClauses(text []byte, clauses [][]int) []byte {
	for _, c := range clauses {
		text = appendLine(text, "", c)
	}
	return text
}
