package bits_test

import (
	"bytes"
	"math"
	"strings"
	"testing"

	"limewash/api"
	"limewash/bits"
)

// sameDigit repeats the bit v n times.
func sameDigit(n int, v bool) string {
	return strings.Repeat(string(digit(v)), n)
}

// checkRange looks at Fill and Count of a range of the map text.
func checkRange(t *testing.T, text string, from, n int) {
	t.Helper()
	m := mapOf(t, text)
	want := strings.Count(text[from:from+n], "1")
	if count, e := m.Count(from, n); count != want || e != api.OK {
		t.Errorf("Count(%d, %d) of %s is %d, %d, not %d", from, n, text, count, e, want)
	}
	for _, v := range both() {
		m := mapOf(t, text)
		want := text[:from] + sameDigit(n, v) + text[from+n:]
		if e := m.Fill(from, n, v); e != api.OK || !m.Same(mapOf(t, want)) || !bytes.Equal(m.Bytes(), bytesOf(want)) {
			t.Errorf("Fill(%d, %d, %v) of %s is %d, and makes %s", from, n, v, text, e, textOf(t, m))
		}
	}
	if textOf(t, m) != text {
		t.Errorf("Count has made %s of %s", textOf(t, m), text)
	}
}

// TestRanges: P2.2, every range of small maps, and ranges that begin and end near the ends of words.
func TestRanges(t *testing.T) {
	for size := range 8 {
		for text := range textsOf(size) {
			for from := range size + 1 {
				for n := range size - from + 1 {
					checkRange(t, text, from, n)
				}
			}
		}
	}
	for _, text := range []string{longTexts()[3], strings.Repeat("0110", 50), strings.Repeat("1", 129), strings.Repeat("100", 1365) + "1"} {
		for _, from := range edges(len(text)) {
			for _, to := range edges(len(text)) {
				if to >= from {
					checkRange(t, text, from, to-from)
				}
			}
		}
	}
}

// TestRangeErrors: P2.2, ranges that are not in the map, also where from + n is more than an int, and nothing changes.
func TestRangeErrors(t *testing.T) {
	for _, text := range []string{"", "1", example, strings.Repeat("1", 64), strings.Repeat("01", 2048)} {
		size := len(text)
		ranges := [][2]int{{0, size + 1}, {size, 1}, {size + 1, 0}, {size + 1, -1}, {-1, 0}, {-1, 1}, {-1, 2}, {0, -1}, {1, -1}, {size, -1}, {size, -size - 1}, {size + 64, 0}, {-64, 64},
			{1, math.MaxInt}, {size, math.MaxInt}, {math.MaxInt, 1}, {math.MaxInt, math.MaxInt}, {math.MinInt, math.MinInt}, {math.MinInt, math.MaxInt}, {math.MinInt, 0}, {0, math.MinInt}, {math.MaxInt, math.MinInt}, {math.MaxInt - 63, 64}}
		for _, x := range far {
			ranges = append(ranges, [2]int{x, 0}, [2]int{x, 1}, [2]int{0, x}, [2]int{x, x}, [2]int{x, -x})
		}
		m := mapOf(t, text)
		for _, x := range ranges {
			if count, e := m.Count(x[0], x[1]); count != 0 || e != api.ErrRange {
				t.Errorf("Count(%d, %d) of %d bits is %d, %d", x[0], x[1], size, count, e)
			}
			for _, v := range both() {
				if e := m.Fill(x[0], x[1], v); e != api.ErrRange {
					t.Errorf("Fill(%d, %d, %v) of %d bits is %d", x[0], x[1], v, size, e)
				}
			}
		}
		if got := textOf(t, m); got != text || !m.Same(mapOf(t, text)) {
			t.Errorf("%s has become %s", text, got)
		}
	}
}

// checkPlace compares a place with where the bits wanted are in what was looked at; below 0: there are none.
func checkPlace(t *testing.T, call string, got int, e api.Errno, want int) {
	t.Helper()
	wantErr := api.OK
	if want < 0 {
		want, wantErr = 0, api.ErrNone
	}
	if got != want || e != wantErr {
		t.Errorf("%s is %d, %d, not %d, %d", call, got, e, want, wantErr)
	}
}

// indexFrom is the first place of part in text from from on; below 0: there is none.
func indexFrom(text, part string, from int) int {
	i := strings.Index(text[from:], part)
	if i < 0 {
		return i
	}
	return from + i
}

// checkSearch looks for bits of the map text with Next from the place at on, and with Last before it.
func checkSearch(t *testing.T, text string, at int) {
	t.Helper()
	m := mapOf(t, text)
	for _, v := range both() {
		next, e := m.Next(at, v)
		checkPlace(t, "Next of "+text, next, e, indexFrom(text, sameDigit(1, v), at))
		if e == api.OK {
			// P2.7: no other bit is between both, and Last leads back.
			before, e := m.Next(at, !v)
			if next > at && (before != at || e != api.OK) {
				t.Errorf("Next(%d, %v) of %s is %d, although %d", at, v, text, next, before)
			}
			last, e := m.Last(next+1, v)
			checkPlace(t, "Last after Next of "+text, last, e, next)
		}
		last, e := m.Last(at, v)
		checkPlace(t, "Last of "+text, last, e, strings.LastIndex(text[:at], sameDigit(1, v)))
	}
	if textOf(t, m) != text {
		t.Errorf("%s has become %s", text, textOf(t, m))
	}
}

// TestSearch: P2.3 and P2.7, from every place of small maps, and from places near the ends of words.
func TestSearch(t *testing.T) {
	for size := range 9 {
		for text := range textsOf(size) {
			for at := range size + 1 {
				checkSearch(t, text, at)
			}
		}
	}
	for _, text := range longTexts() {
		for _, at := range edges(len(text)) {
			checkSearch(t, text, at)
		}
	}
}

// TestSearchErrors: P2.3 and P2.4, there is no such place, which comes before all other errors.
func TestSearchErrors(t *testing.T) {
	for _, text := range []string{"", "1", "0", example, strings.Repeat("1", 64), strings.Repeat("01", 2048)} {
		m := mapOf(t, text)
		for _, at := range append([]int{len(text) + 1, len(text) + 64}, far...) {
			for _, v := range both() {
				if n, e := m.Next(at, v); n != 0 || e != api.ErrRange {
					t.Errorf("Next(%d, %v) of %d bits is %d, %d", at, v, len(text), n, e)
				}
				if n, e := m.Last(at, v); n != 0 || e != api.ErrRange {
					t.Errorf("Last(%d, %v) of %d bits is %d, %d", at, v, len(text), n, e)
				}
				for _, length := range []int{1, 2, 0, -1, math.MaxInt, math.MinInt, api.MaxBits} {
					if n, e := m.Run(at, length, v); n != 0 || e != api.ErrRange {
						t.Errorf("Run(%d, %d, %v) of %d bits is %d, %d", at, length, v, len(text), n, e)
					}
				}
			}
		}
		if got := textOf(t, m); got != text {
			t.Errorf("%s has become %s", text, got)
		}
	}
}

// checkRuns looks for runs of n bits of the map text from the place from on.
func checkRuns(t *testing.T, m *bits.Map, text string, from, n int) {
	t.Helper()
	for _, v := range both() {
		i, e := m.Run(from, n, v)
		checkPlace(t, "Run of "+text, i, e, indexFrom(text, sameDigit(n, v), from))
	}
}

// TestRuns: P2.4 and P2.7, runs of every length from every place of small maps, and long ones.
func TestRuns(t *testing.T) {
	for size := range 10 {
		for text := range textsOf(size) {
			m := mapOf(t, text)
			for from := range size + 1 {
				for n := 1; n <= size+2; n++ {
					checkRuns(t, m, text, from, n)
				}
			}
		}
	}
	texts := longTexts()
	for _, n := range []int{3, 62, 63, 64, 65, 66, 128} {
		short := strings.Repeat("0", n-1)
		long := strings.Repeat("0", n)
		texts = append(texts, short+"1"+short+"11"+long+"1", long, "1"+long, short+"1"+long+"1"+long, short+"1"+short)
	}
	for _, text := range texts {
		m := mapOf(t, text)
		for _, from := range edges(len(text)) {
			for _, n := range []int{1, 2, 3, 62, 63, 64, 65, 66, 127, 128, 129, len(text) - 1, len(text), len(text) + 1, 4095, 4096} {
				checkRuns(t, m, text, from, n)
			}
		}
	}
}

// TestRunErrors: P2.4, runs without a bit, and runs that no map has room for.
func TestRunErrors(t *testing.T) {
	for _, text := range []string{"", "1", "0", example, strings.Repeat("1", 64), strings.Repeat("0", 4096)} {
		m := mapOf(t, text)
		for _, from := range []int{0, len(text) / 2, len(text)} {
			for _, v := range both() {
				for _, n := range []int{0, -1, -64, math.MinInt, math.MinInt + 1} {
					if i, e := m.Run(from, n, v); i != 0 || e != api.ErrArg {
						t.Errorf("Run(%d, %d, %v) of %d bits is %d, %d", from, n, v, len(text), i, e)
					}
				}
				for _, n := range []int{len(text) - from + 1, 4097, 1 << 31, 1 << 32, math.MaxInt - 1, math.MaxInt} {
					if i, e := m.Run(from, n, v); i != 0 || e != api.ErrNone {
						t.Errorf("Run(%d, %d, %v) of %d bits is %d, %d", from, n, v, len(text), i, e)
					}
				}
			}
		}
		if got := textOf(t, m); got != text {
			t.Errorf("%s has become %s", text, got)
		}
	}
}
