package lits

import "skolem/api"

// merge puts two normal lists together, in order. Where both have a variable, common is given both literals: it returns the one that stands for them (0: none), or the error that ends the work.
func merge(a, b []int, common func(x, y int) (int, api.Errno)) ([]int, api.Errno) {
	out := make([]int, 0, len(a)+len(b))
	for len(a) > 0 && len(b) > 0 {
		x, y := a[0], b[0]
		switch {
		case Var(x) < Var(y):
			out = append(out, x)
			a = a[1:]
		case Var(y) < Var(x):
			out = append(out, y)
			b = b[1:]
		default:
			lit, e := common(x, y)
			if e != api.OK {
				return nil, e
			}
			if lit != 0 {
				out = append(out, lit)
			}
			a, b = a[1:], b[1:]
		}
	}
	out = append(out, a...)
	return append(out, b...), api.OK
}

// agreed returns the literal that two literals of one variable both are.
func agreed(x, y int) (int, api.Errno) {
	if x != y {
		return 0, api.ErrTaut
	}
	return x, api.OK
}

// Join returns the normal list of the literals of two.
func Join(a, b []int) ([]int, api.Errno) {
	if !May(a) || !May(b) {
		return nil, api.ErrArg
	}
	return merge(a, b, agreed)
}

// Resolve returns the resolvent of two normal lists on a variable, positive in a, negative in b.
func Resolve(a, b []int, v int) ([]int, api.Errno) {
	if !May(a) || !May(b) {
		return nil, api.ErrArg
	}
	if v <= 0 || !Has(a, v) || !Has(b, -v) {
		return nil, api.ErrNone
	}
	return merge(a, b, func(x, y int) (int, api.Errno) {
		if x == v {
			return 0, api.OK
		}
		return agreed(x, y)
	})
}

// paired reports whether b has each variable of a, and fits holds for its literals in a and in b; both lists are normal.
func paired(a, b []int, fits func(x, y int) bool) bool {
	for _, x := range a {
		for len(b) > 0 && Var(b[0]) < Var(x) {
			b = b[1:]
		}
		if len(b) == 0 || Var(b[0]) != Var(x) || !fits(x, b[0]) {
			return false
		}
	}
	return true
}

// Sub reports whether all literals of a normal list are in another one.
func Sub(a, b []int) bool {
	return May(a) && May(b) && paired(a, b, func(x, y int) bool { return x == y })
}

// Strike returns the literal of b that can be left out because of a; 0: there is none.
func Strike(a, b []int) int {
	if !May(a) || !May(b) {
		return 0
	}
	struck := 0
	fit := paired(a, b, func(x, y int) bool {
		if x == y {
			return true
		}
		if struck != 0 {
			return false
		}
		struck = y
		return true
	})
	if !fit {
		return 0
	}
	return struck
}
