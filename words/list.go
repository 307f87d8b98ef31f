package words

import (
	"iter"
	"strings"

	"limewash/api"
)

// emptyList is the expression of the list without integers.
const emptyList = "-"

// run is consecutive integers of any size, so that both are decimal forms.
type run struct{ first, last string }

// List returns the list expression of l.
func List(l []int) (string, api.Errno) {
	if len(l) > api.MaxListed {
		return "", api.ErrLong
	}
	for _, n := range l {
		if n < 0 || n > api.MaxNumber {
			return "", api.ErrRange
		}
	}
	for i := 1; i < len(l); i++ {
		if l[i] <= l[i-1] {
			return "", api.ErrForm
		}
	}
	if len(l) == 0 {
		return emptyList, api.OK
	}
	var parts []string
	first := 0
	for i := range l {
		if i+1 == len(l) || l[i+1] != l[i]+1 {
			parts = append(parts, writeRun(l[first], l[i]))
			first = i + 1
		}
	}
	return strings.Join(parts, ","), api.OK
}

// ParseList returns the list whose expression is s.
func ParseList(s string) ([]int, api.Errno) {
	var l []int
	great, many := false, false
	// Once there is too much, the runs are only looked at for their form, which is the first error.
	for r, ok := range runs(s) {
		if !ok {
			return nil, api.ErrForm
		}
		first, e1 := Int(r.first, 0, api.MaxNumber)
		last, e2 := Int(r.last, 0, api.MaxNumber)
		great = great || e1 != api.OK || e2 != api.OK
		many = many || great || int64(len(l))+last-first+1 > api.MaxListed
		for n := first; n <= last && !many; n++ {
			l = append(l, int(n))
		}
	}
	if great {
		return nil, api.ErrRange
	}
	if many {
		return nil, api.ErrLong
	}
	return l, api.OK
}

// runs yields the maximal runs of a list expression, each with true; where there is none, it yields false and ends.
func runs(s string) iter.Seq2[run, bool] {
	return func(yield func(run, bool) bool) {
		if s == emptyList {
			return
		}
		least := "0" // the least integer that the next run may begin with
		for part := range strings.SplitSeq(s, ",") {
			r, ok := parseRun(part)
			if !ok || isLess(r.first, least) {
				yield(run{}, false)
				return
			}
			if !yield(r, true) {
				return
			}
			// The integer after a run belongs to it, if it is in the list.
			least = successor(successor(r.last))
		}
	}
}

// parseRun returns the run that s is.
func parseRun(s string) (run, bool) {
	first, last, long := strings.Cut(s, "-")
	if !long {
		return run{first, first}, isDecimal(first)
	}
	return run{first, last}, isDecimal(first) && isDecimal(last) && isLess(first, last)
}

// writeRun returns the written form of the run from first to last.
func writeRun(first, last int) string {
	if first == last {
		return Digits(int64(first))
	}
	return Digits(int64(first)) + "-" + Digits(int64(last))
}

// isLess reports whether the integer a, in decimal form, is less than b.
func isLess(a, b string) bool {
	if len(a) != len(b) {
		return len(a) < len(b)
	}
	return a < b
}

// successor returns the integer after a, both in decimal form.
func successor(a string) string {
	b := []byte(a)
	for i := len(b) - 1; i >= 0; i-- {
		if b[i] != '9' {
			b[i]++
			return string(b)
		}
		b[i] = '0'
	}
	return "1" + string(b)
}
