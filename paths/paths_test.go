package paths_test

import (
	"slices"
	"strings"
	"testing"
	"unsafe"

	"limewash/api"
	"limewash/paths"
)

// checkName compares Name of s, and Check of paths with it, with what the chapter says.
func checkName(t *testing.T, s string) {
	t.Helper()
	want := nameError(s)
	for _, e := range []api.Errno{paths.Name(s), paths.Check([]string{s}), paths.Check([]string{"a", s, "b"})} {
		if e != want {
			t.Errorf("Name(%.60q) of %d bytes is %d, not %d", s, len(s), e, want)
		}
	}
}

// TestName: P3.1, each byte at each end of a name, names of all lengths, and what is wrong twice.
func TestName(t *testing.T) {
	for c := range 256 {
		s := string([]byte{byte(c)})
		for _, name := range []string{s, s + s, s + s + s, "a" + s, s + "a", "a" + s + "b", "." + s, s + ".", "é" + s, long(23) + s, s + long(23), long(24) + s, s + long(24), long(30) + s} {
			checkName(t, name)
		}
	}
	for _, c := range []string{"x", ".", "/", " ", "~", "\x80", "é"} {
		for n := range 60 {
			checkName(t, strings.Repeat(c, n))
		}
		checkName(t, strings.Repeat(c, 1<<20))
	}
	for name, want := range map[string]api.Errno{
		"a.b": api.OK, "...": api.OK, "..a": api.OK, "!": api.OK, "~": api.OK, "\"\\": api.OK, long(24): api.OK,
		"": api.ErrForm, ".": api.ErrForm, "..": api.ErrForm, "a/b": api.ErrForm, " ": api.ErrForm, "\x7f": api.ErrForm, "a\x00": api.ErrForm, long(25) + "/": api.ErrForm, "\x80" + long(1000): api.ErrForm,
		long(25): api.ErrLong, strings.Repeat(".", 25): api.ErrLong,
	} {
		if e := paths.Name(name); e != want {
			t.Errorf("Name(%.60q) is %d, not %d", name, e, want)
		}
	}
}

// TestCheck: P3.1, the number of names first, and then the first name that is none.
func TestCheck(t *testing.T) {
	for n := range 20 {
		want := api.OK
		if n > 8 {
			want = api.ErrLong
		}
		if e := paths.Check(deep(n)); e != want {
			t.Errorf("Check of %d names is %d", n, e)
		}
	}
	for p := range below([]string{"a", "", "..", long(24), long(25), "b c", "-"}, 4) {
		if e := paths.Check(p); e != pathError(p) {
			t.Errorf("Check of %s is %d, not %d", show(p), e, pathError(p))
		}
	}
	for i := range 8 {
		for _, bad := range []string{".", long(25)} {
			p := deep(8)
			p[i] = bad
			if e := paths.Check(p); e != nameError(bad) {
				t.Errorf("Check of %s is %d, not %d", show(p), e, nameError(bad))
			}
			if e := paths.Check(joined(p, "a")); e != api.ErrLong {
				t.Errorf("Check of 9 names is %d", e)
			}
		}
	}
}

// checkParse compares Parse of s with what the chapter says, and if it is a path, Print of it with s.
func checkParse(t *testing.T, s string) {
	t.Helper()
	p, e := paths.Parse(s)
	if !strings.HasPrefix(s, "/") {
		check(t, "Parse of "+show([]string{s}), p, e, nil, api.ErrForm)
		return
	}
	want := pathOf(s)
	check(t, "Parse of "+show(want), p, e, want, pathError(want))
	if e != api.OK {
		return
	}
	if text, e := paths.Print(p); text != s || e != api.OK {
		t.Errorf("Print of Parse of %s is %s, %d", s, text, e)
	}
}

// TestParseExamples: P3.2, the chapter's examples.
func TestParseExamples(t *testing.T) {
	for _, x := range []struct {
		text string
		p    []string
		e    api.Errno
	}{
		{"/", nil, api.OK},
		{"/a/bc", []string{"a", "bc"}, api.OK},
		{"/a/", nil, api.ErrForm},
		{"a", nil, api.ErrForm},
		{"//a", nil, api.ErrForm},
		{"", nil, api.ErrForm},
		{"//", nil, api.ErrForm},
		{" /a", nil, api.ErrForm},
		{"a/", nil, api.ErrForm},
		{"/a//b", nil, api.ErrForm},
		{"/./a", nil, api.ErrForm},
		{"/a/..", nil, api.ErrForm},
		{"/a b", nil, api.ErrForm},
		{"/a\n", nil, api.ErrForm},
		{"/a/" + long(25), nil, api.ErrLong},
		{"/" + long(25) + "/", nil, api.ErrLong},
		{"//" + long(25), nil, api.ErrForm},
		{"/1/2/3/4/5/6/7/8", []string{"1", "2", "3", "4", "5", "6", "7", "8"}, api.OK},
		{"/1/2/3/4/5/6/7/8/", nil, api.ErrLong},
		{"/1/2/3/4/5/6/7/", nil, api.ErrForm},
		{"/1/2/3/4/5/6/7/8/9", nil, api.ErrLong},
		{"1/2/3/4/5/6/7/8/9", nil, api.ErrForm},
	} {
		p, e := paths.Parse(x.text)
		check(t, "Parse of "+x.text, p, e, x.p, x.e)
	}
}

// TestParse: P3.2 and P3.8, every short text of some bytes, and texts of many names, or of many bytes.
func TestParse(t *testing.T) {
	texts := []string{""}
	for range 7 {
		var longer []string
		for _, s := range texts {
			checkParse(t, s)
			for _, c := range []string{"/", ".", "a", "\x00"} {
				longer = append(longer, s+c)
			}
		}
		texts = longer
	}
	for n := range 30 {
		for _, piece := range []string{"/", "/a", "/..", "/" + long(24), "/" + long(25), "/\xff"} {
			text := strings.Repeat(piece, n)
			for _, s := range []string{text, text + "/", text + "/b", "a" + text, text + "/.", text + long(24)} {
				checkParse(t, s)
			}
		}
	}
	checkParse(t, strings.Repeat("/", 1<<20))
	checkParse(t, strings.Repeat("/a", 1<<19))
	checkParse(t, "/"+long(1<<20))
}

// TestPrint: P3.2 and P3.8, the texts of paths, which are parsed again.
func TestPrint(t *testing.T) {
	for _, p := range few() {
		text, e := paths.Print(p)
		if text != textOf(p) || e != api.OK {
			t.Errorf("Print is %s, %d, not %s", text, e, textOf(p))
		}
		again, e := paths.Parse(text)
		check(t, "Parse of "+text, again, e, p, api.OK)
	}
	for _, p := range [][]string{nil, {}} {
		if text, e := paths.Print(p); text != "/" || e != api.OK {
			t.Errorf("Print of the root is %s, %d", text, e)
		}
	}
}

// TestErrors: P3.1 to P3.5, the error of Check for the first path that is none comes before all others.
func TestErrors(t *testing.T) {
	for name, x := range calls() {
		for i := range x.paths {
			for _, bad := range badPaths() {
				for _, after := range badPaths() {
					// Those before the bad one are different, so that Move and Sort have errors of their own.
					l := pathsOf("/b", "/b", "/b", "/b")[:x.paths]
					l[i] = bad.p
					for j := i + 1; j < x.paths; j++ {
						l[j] = after.p
					}
					if zero, e := x.do(l); e != bad.e || !zero {
						t.Errorf("%s with path %d being %s is %d, not %d; other results are zero: %v", name, i, show(bad.p), e, bad.e, zero)
					}
				}
			}
		}
	}
}

// TestRoot: P3.1 to P3.5 and R4, the root may be nil or empty.
func TestRoot(t *testing.T) {
	a := []string{"a"}
	for _, root := range [][]string{nil, {}, a[:0]} {
		for _, other := range [][]string{nil, {}} {
			if n, e := paths.Compare(root, other); n != 0 || e != api.OK {
				t.Errorf("Compare of roots is %d, %d", n, e)
			}
			if is, e := paths.Under(root, other); !is || e != api.OK {
				t.Errorf("Under of roots is %v, %d", is, e)
			}
			p, e := paths.Move(other, root, a)
			check(t, "Move of the root", p, e, a, api.OK)
			p, e = paths.Move(a, a, root)
			check(t, "Move to the root", p, e, nil, api.OK)
			if _, e := paths.Sort([][]string{root, a, other}); e != api.ErrTwice {
				t.Errorf("Sort of two roots is %d", e)
			}
		}
		if e := paths.Check(root); e != api.OK {
			t.Errorf("Check of the root is %d", e)
		}
		p, e := paths.Join(root, "a")
		check(t, "Join of the root", p, e, a, api.OK)
		p, last, e := paths.Parent(root)
		check(t, "Parent of the root", p, e, nil, api.ErrNone)
		if last != "" {
			t.Errorf("Parent of the root has the name %s", last)
		}
	}
}

// TestMemory: P3.8, R3 and R6, arguments stay as they are, and results are new memory.
func TestMemory(t *testing.T) {
	p, from, to := []string{"a", "b", "c"}, []string{"a"}, []string{"x", "y"}
	// With room behind them, what is appended to an argument would be seen in it.
	room := append(make([]string, 0, 8), p...)
	l := [][]string{{"b"}, {"a", "b"}, nil, {"a"}}
	results := func() [][]string {
		var all [][]string
		one := func(r []string, e api.Errno) {
			if e != api.OK {
				t.Fatalf("error %d", e)
			}
			all = append(all, r)
		}
		one(paths.Parse("/a/b/c"))
		one(paths.Common(room, p))
		one(paths.Common(room, from))
		parent, _, e := paths.Parent(room)
		one(parent, e)
		one(paths.Join(room[:2], "z"))
		one(paths.Move(room, from, to))
		one(paths.Move(p, nil, room[:1]))
		one(paths.Move(room, nil, nil))
		sorted, e := paths.Sort(l)
		one(nil, e)
		return append(all, sorted...)
	}
	want := make([][]string, 0)
	for _, r := range results() {
		want = append(want, slices.Clone(r))
	}
	got, again := results(), results()
	for i, r := range got {
		for j := range r {
			r[j] = "!"
		}
		for j := range cap(r) - len(r) {
			r[:cap(r)][len(r)+j] = "!"
		}
		for j := range got {
			if j > i && !slices.Equal(got[j], want[j]) {
				t.Errorf("what is done to the result %d is seen in the result %d", i, j)
			}
		}
	}
	for i, r := range again {
		if !slices.Equal(r, want[i]) {
			t.Errorf("what is done to a result is seen in the result %d of another call", i)
		}
	}
	if !slices.Equal(room[:cap(room)], []string{"a", "b", "c", "", "", "", "", ""}) || textOf(p)+textOf(from)+textOf(to) != "/a/b/c/a/x/y" {
		t.Errorf("arguments are %v, %v, %v, %v", room[:cap(room)], p, from, to)
	}
	if len(l) != 4 || !slices.EqualFunc(l, pathsOf("/b", "/a/b", "/", "/a"), slices.Equal) {
		t.Errorf("the argument of Sort is %v", l)
	}
}

// within reports whether the bytes of s are bytes of one of the strings.
func within(s string, all []string) bool {
	at := uintptr(unsafe.Pointer(unsafe.StringData(s)))
	return slices.ContainsFunc(all, func(o string) bool {
		first := uintptr(unsafe.Pointer(unsafe.StringData(o)))
		return at >= first && at < first+uintptr(len(o))
	})
}

// TestStrings: P3.8 and R3, the bytes of names are new memory too.
func TestStrings(t *testing.T) {
	text := "/abc/def/ghi"
	p := pathOf(text)
	to := []string{strings.Clone("xyz"), strings.Clone("uvw")}
	var results []string
	add := func(l []string, e api.Errno) {
		if e != api.OK {
			t.Fatalf("error %d", e)
		}
		results = append(results, l...)
	}
	add(paths.Parse(text))
	add(paths.Common(p, p))
	parent, last, e := paths.Parent(p)
	add(append(parent, last), e)
	printed, e := paths.Print(p[:1])
	add([]string{printed}, e)
	add(paths.Join(p, to[0]))
	add(paths.Move(p, p[:1], to))
	sorted, e := paths.Sort([][]string{p, to})
	add(slices.Concat(sorted...), e)
	given := append(joined(p, to...), text)
	for i, s := range results {
		if within(s, given) || within(s, results[:i]) {
			t.Errorf("the result %d, %s, has no memory of its own", i, s)
		}
	}
}
