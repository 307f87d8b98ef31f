package paths

import (
	"bytes"
	"cmp"
	"iter"
	"slices"

	"limewash/api"
)

// padded is a name with bytes 0 after it. Names have no bytes 0, so these arrays are equal, and in order, as the names are.
type padded [api.MaxName]byte

// Compare returns -1, 0 or 1, if a comes before b, is b, or comes after b.
func Compare(a, b []string) (int, api.Errno) {
	if e := checkAll(a, b); e != api.OK {
		return 0, e
	}
	return compare(a, b), api.OK
}

// Under returns whether p is under q.
func Under(p, q []string) (bool, api.Errno) {
	if e := checkAll(p, q); e != api.OK {
		return false, e
	}
	return isUnder(p, q), api.OK
}

// Common returns the path with the most names that p and q are under.
func Common(p, q []string) ([]string, api.Errno) {
	if e := checkAll(p, q); e != api.OK {
		return nil, e
	}
	return fresh(p[:shared(p, q)]), api.OK
}

// Sort returns the paths of l in their order.
func Sort(l [][]string) ([][]string, api.Errno) {
	if len(l) > api.MaxPaths {
		return nil, api.ErrLong
	}
	if e := checkAll(l...); e != api.OK {
		return nil, e
	}
	sorted := make([][]string, 0, len(l))
	for _, p := range l {
		sorted = append(sorted, fresh(p))
	}
	slices.SortFunc(sorted, compare)
	for i := 1; i < len(sorted); i++ {
		if compare(sorted[i-1], sorted[i]) == 0 {
			return nil, api.ErrTwice
		}
	}
	return sorted, api.OK
}

// compare is Compare of paths that have been checked.
func compare(a, b []string) int {
	for x, y := range steps(a, b) {
		if x != y {
			return bytes.Compare(x[:], y[:])
		}
	}
	return cmp.Compare(len(a), len(b))
}

// isUnder is Under of paths that have been checked.
func isUnder(p, q []string) bool {
	return shared(p, q) == len(q)
}

// shared returns how many first names p and q have in common.
func shared(p, q []string) int {
	n := 0
	for x, y := range steps(p, q) {
		if x != y {
			break
		}
		n++
	}
	return n
}

// steps walks down p and q together, as far as both go, and yields their names.
func steps(p, q []string) iter.Seq2[padded, padded] {
	return func(yield func(padded, padded) bool) {
		for i := range min(len(p), len(q)) {
			if !yield(pad(p[i]), pad(q[i])) {
				return
			}
		}
	}
}

// pad returns a name as an array.
func pad(name string) padded {
	var a padded
	copy(a[:], name)
	return a
}
