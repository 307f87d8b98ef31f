package paths_test

import (
	"slices"
	"testing"

	"limewash/api"
	"limewash/paths"
)

// TestParent: P3.4 and P3.8, the path above and the last name, which Join puts together again.
func TestParent(t *testing.T) {
	for _, p := range few() {
		if len(p) == 0 {
			continue // TestRoot has it
		}
		parent, last, e := paths.Parent(p)
		check(t, "Parent of "+show(p), parent, e, p[:len(p)-1], api.OK)
		if last != p[len(p)-1] {
			t.Errorf("Parent of %s has the name %s", show(p), last)
		}
		again, e := paths.Join(parent, last)
		check(t, "Join of Parent", again, e, p, api.OK)
	}
	parent, last, e := paths.Parent([]string{"a", "b"})
	if !slices.Equal(parent, []string{"a"}) || last != "b" || e != api.OK {
		t.Errorf("Parent of /a/b is %v, %s, %d", parent, last, e)
	}
}

// TestJoin: P3.4, the error of the path, then that of the name, then too many names.
func TestJoin(t *testing.T) {
	for _, name := range []string{"a", "...", long(24), "", ".", "..", "a/b", "/", "a ", long(25), long(25) + "\x00"} {
		for _, p := range few() {
			want := nameError(name)
			if want == api.OK && len(p) == 8 {
				want = api.ErrLong
			}
			got, e := paths.Join(p, name)
			check(t, "Join of "+show(p)+", "+name, got, e, joined(p, name), want)
		}
		for _, bad := range badPaths() {
			got, e := paths.Join(bad.p, name)
			check(t, "Join of "+show(bad.p)+", "+name, got, e, nil, bad.e)
		}
	}
	for n := range 9 {
		got, e := paths.Join(deep(n), "b")
		want := api.OK
		if n == 8 {
			want = api.ErrLong
		}
		check(t, "Join", got, e, joined(deep(n), "b"), want)
	}
}

// TestMoveExamples: P3.4, the chapter's examples, and results of as many names as may be.
func TestMoveExamples(t *testing.T) {
	for _, x := range []struct {
		p, from, to, want string
		e                 api.Errno
	}{
		{"/a/b", "/a", "/x/y", "/x/y/b", api.OK},
		{"/a", "/b", "/", "", api.ErrNone},
		{"/a", "/b", "/a", "", api.ErrNone},
		{"/a", "/a/b", "/x", "", api.ErrNone},
		{"/ab", "/a", "/x", "", api.ErrNone},
		{"/a/b", "/", "/x", "/x/a/b", api.OK},
		{"/a/b", "/a/b", "/", "/", api.OK},
		{"/a/b", "/a", "/a/b", "/a/b/b", api.OK},
		{"/a/b/c", "/a", "/", "/b/c", api.OK},
		{"/1/2/3/4/5/6/7/8", "/1/2", "/x", "/x/3/4/5/6/7/8", api.OK},
		{"/1/2/3/4/5/6/7/8", "/1/2", "/x/y", "/x/y/3/4/5/6/7/8", api.OK},
		{"/1/2/3/4/5/6/7/8", "/1/2", "/x/y/z", "", api.ErrLong},
		{"/1/2/3/4/5/6/7/8", "/1/3", "/x/y/z", "", api.ErrNone},
		{"/1/2/3/4/5/6/7/8", "/", "/x", "", api.ErrLong},
		{"/1", "/1", "/x/x/x/x/x/x/x/x", "/x/x/x/x/x/x/x/x", api.OK},
		{"/1/2", "/1", "/x/x/x/x/x/x/x/x", "", api.ErrLong},
	} {
		got, e := paths.Move(pathOf(x.p), pathOf(x.from), pathOf(x.to))
		check(t, "Move of "+x.p+" from "+x.from+" to "+x.to, got, e, pathOf(x.want), x.e)
	}
}

// TestMove: P3.4 and P3.8, some paths from and to each other, and back.
func TestMove(t *testing.T) {
	for _, p := range few() {
		for _, from := range few() {
			for _, to := range few() {
				checkMove(t, p, from, to)
			}
		}
	}
}

// checkMove compares Move with what the chapter says, and where it moves a path, moves it back.
func checkMove(t *testing.T, p, from, to []string) {
	t.Helper()
	call := "Move of " + show(p) + " from " + show(from) + " to " + show(to)
	got, e := paths.Move(p, from, to)
	if !begins(p, from) {
		check(t, call, got, e, nil, api.ErrNone)
		return
	}
	want := joined(to, p[len(from):]...)
	if len(want) > 8 {
		check(t, call, got, e, nil, api.ErrLong)
		return
	}
	check(t, call, got, e, want, api.OK)
	back, e := paths.Move(got, to, from)
	check(t, call+", and back", back, e, p, api.OK)
}
