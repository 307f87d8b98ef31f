package words_test

import (
	"math"
	"regexp"
	"slices"
	"strconv"
	"strings"
	"testing"

	"limewash/api"
	"limewash/words"
)

// upTo is the integers from first to last.
func upTo(first, last int) []int {
	var l []int
	for n := first; n <= last; n++ {
		l = append(l, n)
	}
	return l
}

// every is n integers from 0 on, at a distance.
func every(n, distance int) []int {
	var l []int
	for i := range n {
		l = append(l, i*distance)
	}
	return l
}

// printed is the integers, separated by commas.
func printed(l []int) string {
	var parts []string
	for _, n := range l {
		parts = append(parts, strconv.Itoa(n))
	}
	return strings.Join(parts, ",")
}

// TestListExamples: P1.6 and P1.7, lists with their expressions, both ways.
func TestListExamples(t *testing.T) {
	for s, want := range map[string][]int{
		"-":                                     nil,
		"0":                                     {0},
		"1-3,5,8-9":                             {1, 2, 3, 5, 8, 9},
		"0-1":                                   {0, 1},
		"0,2":                                   {0, 2},
		"9-10":                                  {9, 10},
		"8-11,13":                               {8, 9, 10, 11, 13},
		"9,99,999":                              {9, 99, 999},
		"99-101,109,111":                        {99, 100, 101, 109, 111},
		"1000000000":                            {1000000000},
		"0,999999999-1000000000":                {0, 999999999, 1000000000},
		"999999998,1000000000":                  {999999998, 1000000000},
		"0-499":                                 upTo(0, 499),
		"999999501-1000000000":                  upTo(999999501, 1000000000),
		printed(every(500, 2)):                  every(500, 2),
		printed(every(500, 2000000)):            every(500, 2000000),
		"0-249," + printed(every(500, 2)[250:]): slices.Concat(upTo(0, 249), every(500, 2)[250:]),
	} {
		got, e := words.List(want)
		if got != s || e != api.OK {
			t.Errorf("List(%v) is %s, %d, not %s", short(printed(want)), short(got), e, short(s))
		}
		back, e := words.ParseList(s)
		if !slices.Equal(back, want) || e != api.OK {
			t.Errorf("ParseList(%s) is %s, %d", short(s), short(printed(back)), e)
		}
	}
	if s, e := words.List([]int{}); s != "-" || e != api.OK {
		t.Errorf("List of an empty list is %q, %d", s, e)
	}
}

// TestListErrors: P1.6, lists that are none, and which error comes first.
func TestListErrors(t *testing.T) {
	for i, x := range []struct {
		l []int
		e api.Errno
	}{
		{upTo(1, 500), api.OK},
		{upTo(1, 501), api.ErrLong},
		{make([]int, 501), api.ErrLong},
		{append(upTo(0, 499), -1), api.ErrLong},
		{append(upTo(0, 499), 1000000001), api.ErrLong},
		{[]int{-1}, api.ErrRange},
		{[]int{-1, 0}, api.ErrRange},
		{[]int{1000000001}, api.ErrRange},
		{[]int{0, 1000000001}, api.ErrRange},
		{[]int{1000000000, 1000000001}, api.ErrRange},
		{[]int{2, 1, -1}, api.ErrRange},
		{[]int{1, 1, 1000000001}, api.ErrRange},
		{[]int{math.MinInt}, api.ErrRange},
		{[]int{math.MaxInt}, api.ErrRange},
		{[]int{1, 1}, api.ErrForm},
		{[]int{2, 1}, api.ErrForm},
		{[]int{0, 0}, api.ErrForm},
		{[]int{1, 2, 3, 3}, api.ErrForm},
		{[]int{1, 5, 4}, api.ErrForm},
		{[]int{1000000000, 0}, api.ErrForm},
		{make([]int, 500), api.ErrForm},
	} {
		s, e := words.List(x.l)
		if e != x.e || (e == api.OK) != (s != "") {
			t.Errorf("%d: List is %q, %d, not %d", i, short(s), e, x.e)
		}
	}
}

// TestParseListErrors: P1.6, expressions that are none or too much, with integers of any size, and which error comes first.
func TestParseListErrors(t *testing.T) {
	nines := strings.Repeat("9", 400)
	next := "1" + strings.Repeat("0", 400)
	for s, want := range map[string]api.Errno{
		"1-3,4":                  api.ErrForm,
		"3-3":                    api.ErrForm,
		"2,1":                    api.ErrForm,
		"0-600":                  api.ErrLong,
		"":                       api.ErrForm,
		",":                      api.ErrForm,
		"-,1":                    api.ErrForm,
		"1,-":                    api.ErrForm,
		"--":                     api.ErrForm,
		"-1":                     api.ErrForm,
		"-1-2":                   api.ErrForm,
		"1-":                     api.ErrForm,
		"1,":                     api.ErrForm,
		",1":                     api.ErrForm,
		"1,,3":                   api.ErrForm,
		"1, 3":                   api.ErrForm,
		"1-2-3":                  api.ErrForm,
		"1--3":                   api.ErrForm,
		"+1":                     api.ErrForm,
		"01":                     api.ErrForm,
		"1-02":                   api.ErrForm,
		"00":                     api.ErrForm,
		"-0":                     api.ErrForm,
		"a":                      api.ErrForm,
		"1\n":                    api.ErrForm,
		"1,2":                    api.ErrForm,
		"1-2,3-4":                api.ErrForm,
		"1,1":                    api.ErrForm,
		"1-3,3":                  api.ErrForm,
		"1-3,2":                  api.ErrForm,
		"3-2":                    api.ErrForm,
		"10-9":                   api.ErrForm,
		"9,10":                   api.ErrForm,
		"9,8":                    api.ErrForm,
		"10,9":                   api.ErrForm,
		"100,9":                  api.ErrForm,
		"0-499":                  api.OK,
		"0-500":                  api.ErrLong,
		"0-498,500":              api.OK,
		"0-499,501":              api.ErrLong,
		"0,2-501":                api.ErrLong,
		"0,2-500":                api.OK,
		"0-600,700":              api.ErrLong,
		"0-299,301-599,601":      api.ErrLong,
		"0,2-600,602":            api.ErrLong,
		"999999500-1000000000":   api.ErrLong,
		"0-1000000000":           api.ErrLong,
		"0-1000000001":           api.ErrRange,
		"1000000001":             api.ErrRange,
		"1000000000,1000000001":  api.ErrForm,
		"1000000000-1000000001":  api.ErrRange,
		"1000000000,1000000002":  api.ErrRange,
		"0-600,1000000001":       api.ErrRange,
		"0-600,602-2000000000":   api.ErrRange,
		"0-600,1000000001,5":     api.ErrForm,
		"0-600,601":              api.ErrForm,
		"0-600,x":                api.ErrForm,
		"1000000001,x":           api.ErrForm,
		"1000000001,":            api.ErrForm,
		"5,2147483648":           api.ErrRange,
		"5,4294967296":           api.ErrRange,
		"5,4294967303":           api.ErrRange,
		"5,9223372036854775808":  api.ErrRange,
		"5,18446744073709551623": api.ErrRange,
		"5-18446744073709551622": api.ErrRange,
		"18446744073709551616,2": api.ErrForm,
		"18446744073709551616-3": api.ErrForm,
		"18446744073709551615,18446744073709551616": api.ErrForm,
		"18446744073709551615-18446744073709551616": api.ErrRange,
		"18446744073709551615,18446744073709551617": api.ErrRange,
		nines:                                  api.ErrRange,
		nines + "," + next:                     api.ErrForm,
		nines + "-" + next:                     api.ErrRange,
		nines + "," + next[:400] + "1":         api.ErrRange,
		next + "-" + nines:                     api.ErrForm,
		next + "," + nines:                     api.ErrForm,
		nines + "-" + nines:                    api.ErrForm,
		"0" + nines:                            api.ErrForm,
		nines + "x":                            api.ErrForm,
		printed(every(500, 2)):                 api.OK,
		printed(every(501, 2)):                 api.ErrLong,
		printed(every(501, 2)) + ",1":          api.ErrForm,
		printed(every(501, 2)) + ",1000000001": api.ErrRange,
		printed(every(9000, 2)):                api.ErrLong,
		printed(every(9000, 2)) + ",":          api.ErrForm,
	} {
		l, e := words.ParseList(s)
		if e != want || (e == api.OK) != (len(l) > 0) {
			t.Errorf("ParseList(%s) has %d integers, %d, not %d", short(s), len(l), e, want)
		}
	}
}

var partRule = regexp.MustCompile(`\A(0|[1-9][0-9]*)(?:-(0|[1-9][0-9]*))?\z`)

// listOf is the integers that the expression s says; not ok: it is none. Its integers are small.
func listOf(s string) (l []int, ok bool) {
	if s == "-" {
		return nil, true
	}
	before := -2
	for _, part := range strings.Split(s, ",") {
		m := partRule.FindStringSubmatch(part)
		if m == nil {
			return nil, false
		}
		first, _ := strconv.Atoi(m[1])
		last := first
		if m[2] != "" {
			last, _ = strconv.Atoi(m[2])
			if last <= first {
				return nil, false
			}
		}
		if first <= before+1 {
			return nil, false
		}
		l = append(l, upTo(first, last)...)
		before = last
	}
	return l, true
}

// TestParseListForms: P1.6 and P1.7, every short string.
func TestParseListForms(t *testing.T) {
	for s := range stringsOf("0129-, ", 6) {
		want, ok := listOf(s)
		e := api.OK
		switch {
		case !ok:
			e = api.ErrForm
		case len(want) > api.MaxListed:
			want, e = nil, api.ErrLong
		}
		got, ge := words.ParseList(s)
		if !slices.Equal(got, want) || ge != e {
			t.Errorf("ParseList(%q) is %v, %d, not %v, %d", s, got, ge, want, e)
		}
		if ge != api.OK {
			continue
		}
		if back, e := words.List(got); back != s || e != api.OK {
			t.Errorf("List(ParseList(%q)) is %q, %d", s, back, e)
		}
	}
}

// TestListSubsets: P1.6 and P1.7, every list of integers from 6 to 17 has an expression of its own, with which it comes back.
func TestListSubsets(t *testing.T) {
	seen := map[string]bool{}
	for set := range 1 << 12 {
		var l []int
		for i := range 12 {
			if set>>i&1 == 1 {
				l = append(l, 6+i)
			}
		}
		s, e := words.List(l)
		want, ok := listOf(s)
		if !ok || !slices.Equal(want, l) || e != api.OK || seen[s] {
			t.Errorf("List(%v) is %s, %d", l, s, e)
		}
		seen[s] = true
		if back, e := words.ParseList(s); !slices.Equal(back, l) || e != api.OK {
			t.Errorf("ParseList(%s) is %v, %d", s, back, e)
		}
	}
}

// TestParseListBytes: P1.6, no byte but digits, commas and hyphens is in an expression.
func TestParseListBytes(t *testing.T) {
	for c := range 256 {
		for at := range 3 {
			b := []byte("444")
			b[at] = byte(c)
			want, ok := listOf(string(b))
			e := api.ErrForm
			if ok {
				e = api.OK
			}
			if got, ge := words.ParseList(string(b)); !slices.Equal(got, want) || ge != e {
				t.Errorf("ParseList(%q) is %v, %d, not %v, %d", b, got, ge, want, e)
			}
		}
	}
}

// TestListMemory: P1.8, R3 and R6, arguments stay as they are, and results are new memory.
func TestListMemory(t *testing.T) {
	whole := []int{1, 2, 3, 9, 9}
	s, e := words.List(whole[:3])
	if s != "1-3" || e != api.OK || !slices.Equal(whole, []int{1, 2, 3, 9, 9}) {
		t.Errorf("List is %s, %d, and leaves %v", s, e, whole)
	}
	if _, e := words.List(whole); e != api.ErrForm || !slices.Equal(whole, []int{1, 2, 3, 9, 9}) {
		t.Errorf("List is %d, and leaves %v", e, whole)
	}
	unsorted := []int{3, 1, 2}
	if _, e := words.List(unsorted); e != api.ErrForm || !slices.Equal(unsorted, []int{3, 1, 2}) {
		t.Errorf("List is %d, and leaves %v", e, unsorted)
	}
	whole[0] = 7
	if s != "1-3" {
		t.Errorf("the expression has become %s", s)
	}
	first, _ := words.ParseList("1-3,5")
	second, _ := words.ParseList("1-3,5")
	for i := range first {
		first[i] = 100
	}
	third, _ := words.ParseList("1-3,5")
	if want := []int{1, 2, 3, 5}; !slices.Equal(second, want) || !slices.Equal(third, want) {
		t.Errorf("ParseList is %v, then %v", second, third)
	}
}
