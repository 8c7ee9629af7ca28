package lits

import (
	"cmp"
	"slices"
)

// compareBy compares by the first of the keys that tells a from b.
func compareBy[T any](a, b T, keys ...func(a, b T) int) int {
	for _, key := range keys {
		if c := key(a, b); c != 0 {
			return c
		}
	}
	return 0
}

// magnitude returns the absolute value, which the least int has as a uint only.
func magnitude(x int) uint {
	if x < 0 {
		return -uint(x)
	}
	return uint(x)
}

func byMagnitude(x, y int) int {
	return cmp.Compare(magnitude(x), magnitude(y))
}

func bySign(x, y int) int {
	return cmp.Compare(x, y)
}

// compareLits is the order of literals.
func compareLits(x, y int) int {
	return compareBy(x, y, byMagnitude, bySign)
}

// byPlaces compares at the first place that both lists have and at which they differ.
func byPlaces(a, b []int) int {
	for i := range min(len(a), len(b)) {
		if a[i] != b[i] {
			return compareLits(a[i], b[i])
		}
	}
	return 0
}

func byLength(a, b []int) int {
	return cmp.Compare(len(a), len(b))
}

// Compare compares two lists of literals.
func Compare(a, b []int) int {
	return compareBy(a, b, byPlaces, byLength)
}

// Sort returns the lists of a CNF in order, each once.
func Sort(f [][]int) [][]int {
	if !MayCnf(f) {
		return nil
	}
	sorted := make([][]int, len(f))
	copy(sorted, f)
	slices.SortFunc(sorted, Compare)
	var out [][]int
	for i, l := range sorted {
		if i == 0 || !slices.Equal(sorted[i-1], l) {
			out = append(out, copied(l))
		}
	}
	return out
}
