package lits_test

import (
	"math"
	"math/big"
	"slices"
	"strconv"
	"strings"

	"skolem/api"
)

// The functions of this file follow the chapter's sentences word by word, without regard to time; the tests hold the package against them.

func isLit(x int) bool {
	return x != 0 && x >= -65536 && x <= 65536
}

func naiveVar(x int) int {
	if !isLit(x) {
		return 0
	}
	if x < 0 {
		return -x
	}
	return x
}

func naiveMay(l []int) bool {
	for i, x := range l {
		if !isLit(x) || i > 0 && naiveVar(l[i-1]) >= naiveVar(x) {
			return false
		}
	}
	return true
}

func naiveOrder(x, y int) int {
	a, b := big.NewInt(int64(x)), big.NewInt(int64(y))
	if c := new(big.Int).Abs(a).Cmp(new(big.Int).Abs(b)); c != 0 {
		return c
	}
	return a.Cmp(b)
}

func naiveCompare(a, b []int) int {
	for i := 0; i < len(a) && i < len(b); i++ {
		if c := naiveOrder(a[i], b[i]); c != 0 {
			return c
		}
	}
	switch {
	case len(a) < len(b):
		return -1
	case len(a) > len(b):
		return 1
	}
	return 0
}

// naiveNorm picks the least literal that is greater than the one before, again and again.
func naiveNorm(l []int) ([]int, api.Errno) {
	for _, x := range l {
		if !isLit(x) {
			return nil, api.ErrArg
		}
	}
	for _, x := range l {
		if slices.Contains(l, -x) {
			return nil, api.ErrTaut
		}
	}
	var out []int
	for v := 1; v <= 65536 && len(l) > 0; v++ {
		if slices.Contains(l, v) {
			out = append(out, v)
		}
		if slices.Contains(l, -v) {
			out = append(out, -v)
		}
		l = slices.DeleteFunc(slices.Clone(l), func(x int) bool { return naiveVar(x) == v })
	}
	return out, api.OK
}

func naiveJoin(a, b []int) ([]int, api.Errno) {
	if !naiveMay(a) || !naiveMay(b) {
		return nil, api.ErrArg
	}
	return naiveNorm(slices.Concat(a, b))
}

func naiveWithout(l []int, v int) []int {
	if !naiveMay(l) {
		return nil
	}
	return slices.DeleteFunc(slices.Clone(l), func(x int) bool { return naiveVar(x) == v })
}

func naiveWithin(l, vars []int) []int {
	if !naiveMay(l) {
		return nil
	}
	return slices.DeleteFunc(slices.Clone(l), func(x int) bool { return !slices.Contains(vars, naiveVar(x)) })
}

func naiveResolve(a, b []int, v int) ([]int, api.Errno) {
	if !naiveMay(a) || !naiveMay(b) {
		return nil, api.ErrArg
	}
	if v <= 0 || !slices.Contains(a, v) || !slices.Contains(b, -v) {
		return nil, api.ErrNone
	}
	return naiveJoin(naiveWithout(a, v), naiveWithout(b, v))
}

func allIn(a, b []int) bool {
	for _, x := range a {
		if !slices.Contains(b, x) {
			return false
		}
	}
	return true
}

func naiveSub(a, b []int) bool {
	return naiveMay(a) && naiveMay(b) && allIn(a, b)
}

func naiveStrike(a, b []int) int {
	if !naiveMay(a) || !naiveMay(b) {
		return 0
	}
	for _, x := range b {
		others := slices.DeleteFunc(slices.Clone(a), func(y int) bool { return y == -x })
		if slices.Contains(a, -x) && allIn(others, b) {
			return x
		}
	}
	return 0
}

func naiveText(l []int) string {
	var words []string
	for _, x := range l {
		words = append(words, strconv.Itoa(x))
	}
	return strings.Join(words, " ")
}

// listsOf returns all lists of at most n of some integers, in any order and with repetitions.
func listsOf(n int, some ...int) [][]int {
	all := [][]int{nil}
	from := 0
	for range n {
		to := len(all)
		for _, l := range all[from:to] {
			for _, x := range some {
				all = append(all, append(slices.Clip(slices.Clone(l)), x))
			}
		}
		from = to
	}
	return all
}

// normalLists returns all normal lists of the variables.
func normalLists(vars ...int) [][]int {
	all := [][]int{nil}
	for _, v := range vars {
		for _, l := range slices.Clone(all) {
			all = append(all, append(slices.Clone(l), -v), append(slices.Clone(l), v))
		}
	}
	return all
}

// oddInts are integers at the ends of what a literal and an int can be.
var oddInts = []int{math.MinInt, math.MinInt + 1, -65538, -65537, -65536, -65535, -1, 0, 1, 65535, 65536, 65537, 65538, math.MaxInt - 1, math.MaxInt}

// variables returns from, from + 1, .. to.
func variables(from, to int) []int {
	var l []int
	for v := from; v <= to; v++ {
		l = append(l, v)
	}
	return l
}

func sameLists(f, g [][]int) bool {
	return slices.EqualFunc(f, g, func(a, b []int) bool { return slices.Equal(a, b) })
}
