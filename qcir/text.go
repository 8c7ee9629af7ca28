package qcir

import (
	"iter"
	"strconv"
	"strings"

	"skolem/api"
)

// blockWord returns the word with which the line of a block begins.
func blockWord(exists bool) string {
	if exists {
		return "exists"
	}
	return "forall"
}

// kindWords returns the words of gates; that of a kind is at its place.
func kindWords() [api.GateIte + 1]string {
	return [...]string{api.GateAnd: "and", api.GateOr: "or", api.GateXor: "xor", api.GateIte: "ite"}
}

// kindOf returns the kind of gates that has a word; NoGate: there is none.
func kindOf(word string) api.GateKind {
	for k, w := range kindWords() {
		if w == word {
			return api.GateKind(k)
		}
	}
	return api.NoGate
}

func appendNumber(text []byte, n int) []byte {
	return strconv.AppendInt(text, int64(n), 10)
}

// appendList puts numbers in brackets at the end of a text.
func appendList(text []byte, l []int) []byte {
	text = append(text, '(')
	for i, n := range l {
		if i > 0 {
			text = append(text, ", "...)
		}
		text = appendNumber(text, n)
	}
	return append(text, ')')
}

// lines tells the lines of a text, each with its number, from 1 on; what stands behind the last line feed is one if it has a byte.
func lines(s string) iter.Seq2[int, string] {
	return func(yield func(n int, text string) bool) {
		rest := s
		for n := 1; rest != ""; n++ {
			var text string
			text, rest, _ = strings.Cut(rest, "\n")
			if !yield(n, text) {
				return
			}
		}
	}
}
