package paths_test

import (
	"iter"
	"regexp"
	"slices"
	"strconv"
	"strings"
	"testing"

	"limewash/api"
	"limewash/paths"
)

// nameBytes is a string of bytes that names have, as the chapter says it.
var nameBytes = regexp.MustCompile(`\A[!-.0-~]+\z`)

// nameError is what the chapter says of s as a name.
func nameError(s string) api.Errno {
	switch {
	case !nameBytes.MatchString(s), s == ".", s == "..":
		return api.ErrForm
	case len(s) > 24:
		return api.ErrLong
	}
	return api.OK
}

// pathError is what the chapter says of p as a path.
func pathError(p []string) api.Errno {
	if len(p) > 8 {
		return api.ErrLong
	}
	for _, name := range p {
		if e := nameError(name); e != api.OK {
			return e
		}
	}
	return api.OK
}

// textOf is the text of a path.
func textOf(p []string) string {
	if len(p) == 0 {
		return "/"
	}
	return "/" + strings.Join(p, "/")
}

// pathOf is the path with a text.
func pathOf(text string) []string {
	if text == "/" {
		return nil
	}
	return strings.Split(text, "/")[1:]
}

// pathsOf are the paths with the texts.
func pathsOf(texts ...string) [][]string {
	l := [][]string{}
	for _, text := range texts {
		l = append(l, pathOf(text))
	}
	return l
}

// compared is the order of paths: names are ended by a byte that is less than those of names.
func compared(a, b []string) int {
	key := func(p []string) string {
		var s string
		for _, name := range p {
			s += name + "\x00"
		}
		return s
	}
	return strings.Compare(key(a), key(b))
}

// begins reports whether the first names of p are q.
func begins(p, q []string) bool {
	return len(p) >= len(q) && slices.Equal(p[:len(q)], q)
}

// joined is p and after it the names.
func joined(p []string, names ...string) []string {
	return append(slices.Clone(p), names...)
}

// below yields every path of at most most of the names.
func below(names []string, most int) iter.Seq[[]string] {
	var down func(p []string, yield func([]string) bool) bool
	down = func(p []string, yield func([]string) bool) bool {
		if !yield(slices.Clone(p)) {
			return false
		}
		if len(p) == most {
			return true
		}
		for _, name := range names {
			if !down(joined(p, name), yield) {
				return false
			}
		}
		return true
	}
	return func(yield func([]string) bool) { down(nil, yield) }
}

// deep is the path of n names a.
func deep(n int) []string { return slices.Repeat([]string{"a"}, n) }

// long is n letters.
func long(n int) string { return strings.Repeat("x", n) }

// few are paths whose names begin each other, or have bytes next to the slash; with the longest ones.
func few() [][]string {
	l := slices.Collect(below([]string{"a", "ab", "a.", "0", "~"}, 2))
	for _, name := range []string{long(24), long(23) + "y", long(23), "!"} {
		l = append(l, []string{name})
	}
	return append(l, deep(3), deep(7), deep(8), joined(deep(7), "b"), joined(deep(7), "aa"), slices.Repeat([]string{long(24)}, 8))
}

// badPath is no path, and has an error.
type badPath struct {
	p []string
	e api.Errno
}

// badPaths are no paths, each with its error.
func badPaths() []badPath {
	return []badPath{
		{[]string{""}, api.ErrForm},
		{[]string{"a", ".."}, api.ErrForm},
		{[]string{"a", "b/c", long(25)}, api.ErrForm},
		{[]string{"a", long(25), "."}, api.ErrLong},
		{deep(9), api.ErrLong},
		{slices.Repeat([]string{""}, 9), api.ErrLong},
	}
}

// show is the text of p, quoted, and cut to what a message can show.
func show(p []string) string {
	text := textOf(p)
	if len(text) > 60 {
		return strconv.Quote(text[:60]) + ".."
	}
	return strconv.Quote(text)
}

// check compares a path and an error with those that should be there.
func check(t *testing.T, call string, p []string, e api.Errno, want []string, wantError api.Errno) {
	t.Helper()
	if wantError != api.OK {
		want = nil
	}
	if e != wantError || !slices.Equal(p, want) {
		t.Errorf("%s is %s, %d, not %s, %d", call, show(p), e, show(want), wantError)
	}
}

// call is a function that is given some paths; it returns whether the results beside the error are zero.
type call struct {
	paths int
	do    func(p [][]string) (zero bool, e api.Errno)
}

// calls are the functions with paths.
func calls() map[string]call {
	return map[string]call{
		"Check": {1, func(p [][]string) (bool, api.Errno) { return true, paths.Check(p[0]) }},
		"Print": {1, func(p [][]string) (bool, api.Errno) {
			s, e := paths.Print(p[0])
			return s == "", e
		}},
		"Compare": {2, func(p [][]string) (bool, api.Errno) {
			n, e := paths.Compare(p[0], p[1])
			return n == 0, e
		}},
		"Under": {2, func(p [][]string) (bool, api.Errno) {
			is, e := paths.Under(p[0], p[1])
			return !is, e
		}},
		"Common": {2, func(p [][]string) (bool, api.Errno) {
			l, e := paths.Common(p[0], p[1])
			return len(l) == 0, e
		}},
		"Parent": {1, func(p [][]string) (bool, api.Errno) {
			l, last, e := paths.Parent(p[0])
			return len(l) == 0 && last == "", e
		}},
		"Join": {1, func(p [][]string) (bool, api.Errno) {
			l, e := paths.Join(p[0], "")
			return len(l) == 0, e
		}},
		"Move": {3, func(p [][]string) (bool, api.Errno) {
			l, e := paths.Move(p[0], p[1], p[2])
			return len(l) == 0, e
		}},
		"Sort": {4, func(p [][]string) (bool, api.Errno) {
			l, e := paths.Sort(p)
			return len(l) == 0, e
		}},
	}
}
