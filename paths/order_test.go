package paths_test

import (
	"math/rand"
	"slices"
	"strconv"
	"testing"

	"limewash/api"
	"limewash/paths"
)

// order is Compare of paths.
func order(t *testing.T, a, b []string) int {
	t.Helper()
	n, e := paths.Compare(a, b)
	if e != api.OK {
		t.Fatalf("Compare of %s, %s is %d", show(a), show(b), e)
	}
	return n
}

// TestCompareExamples: P3.3, the chapter's examples, and names that begin others.
func TestCompareExamples(t *testing.T) {
	for _, x := range []struct {
		a, b string
		n    int
	}{
		{"/a/b", "/a", 1},
		{"/a/b", "/a-", -1},
		{"/ab", "/a/b", 1},
		{"/", "/", 0},
		{"/", "/!", -1},
		{"/a", "/a", 0},
		{"/a/b", "/a/b", 0},
		{"/a", "/aa", -1},
		{"/a", "/B", 1},
		{"/a!", "/a", 1},
		{"/a!/z", "/a/~", 1},
		{"/a.b", "/a/b", 1},
		{"/a/b/c", "/a/b/d", -1},
		{"/a/c", "/a/b/d", 1},
		{"/b", "/a/b/c/d/e/f/g/h", 1},
	} {
		if n := order(t, pathOf(x.a), pathOf(x.b)); n != x.n {
			t.Errorf("Compare of %s, %s is %d", x.a, x.b, n)
		}
		if n := order(t, pathOf(x.b), pathOf(x.a)); n != -x.n {
			t.Errorf("Compare of %s, %s is %d", x.b, x.a, n)
		}
	}
}

// TestUnderExamples: P3.3, the chapter's examples, and paths that nearly begin others.
func TestUnderExamples(t *testing.T) {
	for _, x := range []struct {
		p, q   string
		is     bool
		common string
	}{
		{"/a/b", "/a", true, "/a"},
		{"/ab", "/a", false, "/"},
		{"/a", "/", true, "/"},
		{"/a", "/a", true, "/a"},
		{"/a", "/a/b", false, "/a"},
		{"/", "/a", false, "/"},
		{"/a/b", "/a/c", false, "/a"},
		{"/a/b/c", "/a/x/c", false, "/a"},
		{"/x/b", "/a/b", false, "/"},
	} {
		p, q := pathOf(x.p), pathOf(x.q)
		if is, e := paths.Under(p, q); is != x.is || e != api.OK {
			t.Errorf("Under of %s, %s is %v, %d", x.p, x.q, is, e)
		}
		common, e := paths.Common(p, q)
		check(t, "Common of "+x.p+", "+x.q, common, e, pathOf(x.common), api.OK)
	}
}

// TestPairs: P3.3 and P3.6, Compare, Under and Common of all pairs of some paths.
func TestPairs(t *testing.T) {
	for _, a := range few() {
		for _, b := range few() {
			n := order(t, a, b)
			if n != compared(a, b) || n != -order(t, b, a) || (n == 0) != slices.Equal(a, b) {
				t.Errorf("Compare of %s, %s is %d", show(a), show(b), n)
			}
			if is, e := paths.Under(a, b); is != begins(a, b) || e != api.OK {
				t.Errorf("Under of %s, %s is %v, %d", show(a), show(b), is, e)
			}
			var most []string
			for i := range len(a) + 1 {
				if begins(b, a[:i]) {
					most = a[:i]
				}
			}
			common, e := paths.Common(a, b)
			check(t, "Common of "+show(a)+", "+show(b), common, e, most, api.OK)
		}
	}
}

// TestOneName: P3.3, names that differ in one byte alone, at each place of names of each length.
func TestOneName(t *testing.T) {
	for length := 1; length <= 24; length++ {
		for i := range length {
			lesser, greater := []byte(long(length)), []byte(long(length))
			lesser[i], greater[i] = '!', '~'
			a, b := []string{"a", string(lesser), "c"}, []string{"a", string(greater), "b"}
			if n := order(t, a, b); n != -1 {
				t.Errorf("Compare of %s, %s is %d", show(a), show(b), n)
			}
			if is, e := paths.Under(a, b[:2]); is || e != api.OK {
				t.Errorf("Under of %s, %s is %v, %d", show(a), show(b[:2]), is, e)
			}
			if n := order(t, a, joined(nil, "a", long(length), "b")); n != -1 {
				t.Errorf("Compare of %s is %d", show(a), n)
			}
		}
	}
}

// TestTotalOrder: P3.6, if a is not after b, and b not after c, then a is not after c.
func TestTotalOrder(t *testing.T) {
	l := few()
	at := make([][]int, len(l))
	for i, a := range l {
		for _, b := range l {
			at[i] = append(at[i], order(t, a, b))
		}
	}
	for i := range l {
		for j := range l {
			for k := range l {
				if at[i][j] <= 0 && at[j][k] <= 0 && at[i][k] > 0 {
					t.Errorf("%s, %s and %s are not in an order", show(l[i]), show(l[j]), show(l[k]))
				}
			}
		}
	}
}

// checkSorted compares Sort of l with its paths in their order.
func checkSorted(t *testing.T, l [][]string) {
	t.Helper()
	want := slices.SortedFunc(slices.Values(l), compared)
	got, e := paths.Sort(l)
	if e != api.OK || !slices.EqualFunc(got, want, slices.Equal) {
		t.Errorf("Sort of %d paths is %d", len(l), e)
	}
	for i := 1; i < len(got); i++ {
		if order(t, got[i-1], got[i]) != -1 {
			t.Errorf("%s stands before %s", show(got[i-1]), show(got[i]))
		}
	}
}

// TestSort: P3.5, lists that are mixed, also those of as many paths as may be sorted.
func TestSort(t *testing.T) {
	checkSorted(t, nil)
	checkSorted(t, [][]string{})
	checkSorted(t, [][]string{nil})
	checkSorted(t, pathsOf("/b/a", "/a-", "/", "/a/b", "/a"))
	random := rand.New(rand.NewSource(3))
	for range 50 {
		l := few()
		random.Shuffle(len(l), func(i, j int) { l[i], l[j] = l[j], l[i] })
		checkSorted(t, l)
		checkSorted(t, l[:random.Intn(len(l))])
	}
	checkSorted(t, numbered(500))
}

// numbered is n different paths, not in their order.
func numbered(n int) [][]string {
	var l [][]string
	for i := range n {
		l = append(l, []string{"d", strconv.Itoa(i * 7 % n), "x"}[:2+i%2])
	}
	return l
}

// TestSortErrors: P3.5, too many paths, before one that is none, before one that is there twice.
func TestSortErrors(t *testing.T) {
	for _, bad := range badPaths() {
		if l, e := paths.Sort([][]string{{"b"}, {"a"}, bad.p, {"a"}, {"", ""}}); len(l) != 0 || e != bad.e {
			t.Errorf("Sort with %s is %v, %d", show(bad.p), l, e)
		}
		if l, e := paths.Sort(append(slices.Repeat([][]string{bad.p}, 499), nil)); len(l) != 0 || e != bad.e {
			t.Errorf("Sort of 500 with %s is %v, %d", show(bad.p), l, e)
		}
		if l, e := paths.Sort(slices.Repeat([][]string{bad.p}, 501)); len(l) != 0 || e != api.ErrLong {
			t.Errorf("Sort of 501 with %s is %v, %d", show(bad.p), l, e)
		}
	}
	for _, n := range []int{501, 502, 1000} {
		if l, e := paths.Sort(numbered(n)); len(l) != 0 || e != api.ErrLong {
			t.Errorf("Sort of %d paths is %v, %d", n, l, e)
		}
	}
	if l, e := paths.Sort(slices.Repeat([][]string{{"a"}}, 501)); len(l) != 0 || e != api.ErrLong {
		t.Errorf("Sort of 501 equal paths is %v, %d", l, e)
	}
	for i := range few() {
		for _, j := range []int{0, i, len(few()) - 1} {
			l := few()
			l = slices.Insert(l, j, slices.Clone(l[i]))
			if got, e := paths.Sort(l); len(got) != 0 || e != api.ErrTwice {
				t.Errorf("Sort with %s twice is %v, %d", show(l[j]), got, e)
			}
		}
	}
	most := numbered(499)
	if l, e := paths.Sort(append(most, most[0])); len(l) != 0 || e != api.ErrTwice {
		t.Errorf("Sort of 500 paths with one twice is %d, with %d paths", e, len(l))
	}
}

// TestRun: P3.7, in a sorted list the paths under one path stand together, and it begins them.
func TestRun(t *testing.T) {
	sorted, e := paths.Sort(few())
	if e != api.OK {
		t.Fatalf("Sort is %d", e)
	}
	for _, q := range append(few(), nil, []string{"b"}, []string{"a", "a", "a", "a"}) {
		first, runs := -1, 0
		for i, p := range sorted {
			is, e := paths.Under(p, q)
			if e != api.OK {
				t.Fatalf("Under of %s, %s is %d", show(p), show(q), e)
			}
			if is && (i == 0 || !begins(sorted[i-1], q)) {
				first = i
				runs++
			}
		}
		if runs > 1 {
			t.Errorf("paths under %s are in %d runs", show(q), runs)
		}
		if at := slices.IndexFunc(sorted, func(p []string) bool { return slices.Equal(p, q) }); at >= 0 && at != first {
			t.Errorf("%s is not the first one under itself", show(q))
		}
	}
}
