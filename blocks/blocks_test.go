package blocks_test

import (
	"math"
	"testing"

	"limewash/api"
	"limewash/blocks"
)

// TestRegions: P8.1, P8.7, of every layout whose numbers are in their ranges.
func TestRegions(t *testing.T) {
	for sectors := 64; sectors <= 256; sectors++ {
		for journal := 8; journal <= 96; journal++ {
			for inodes := 1; inodes <= 60; inodes++ {
				l := api.BkLayout{Sectors: sectors, Journal: journal, Inodes: inodes}
				want, wantE := regionsOf(l)
				if r, e := blocks.Regions(l); r != want || e != wantE {
					t.Fatalf("Regions of %v is %v, %d, not %v, %d", l, r, e, want, wantE)
				}
			}
		}
	}
}

// TestWrongLayouts: P8.1, P8.2, P8.6, the error of Regions, also where others apply.
func TestWrongLayouts(t *testing.T) {
	for l, want := range wrongLayouts() {
		if r, e := blocks.Regions(l); r != (api.BkRegions{}) || e != want {
			t.Errorf("Regions of %v is %v, %d, not %d", l, r, e, want)
		}
		for _, block := range append([]int{0, 7, 8}, far...) {
			if n, e := blocks.Sector(l, block); n != 0 || e != want {
				t.Errorf("Sector of %v, %d is %d, %d, not %d", l, block, n, e, want)
			}
		}
		if s, e := blocks.New(l); !same(s, api.BkState{}) || e != want {
			t.Errorf("New of %v is %v, %d, not %d", l, s, e, want)
		}
		for _, n := range []int{0, 1, 95, 96, 97} {
			b := make([]byte, n)
			for i := range b {
				b[i] = 255
			}
			if s, e := blocks.Decode(l, b); !same(s, api.BkState{}) || e != want {
				t.Errorf("Decode of %v, %d bytes is %v, %d, not %d", l, n, s, e, want)
			}
		}
	}
}

// TestSectorOwners: P8.1, P8.7, each sector belongs to one region, and each block has a sector of its own.
func TestSectorOwners(t *testing.T) {
	for l, many := range layouts {
		r, e := blocks.Regions(l)
		if e != api.OK || r.Blocks != many {
			t.Fatalf("Regions of %v is %v, %d", l, r, e)
		}
		owners := make([]byte, l.Sectors)
		own := func(sector int, owner byte) {
			t.Helper()
			if owners[sector] != 0 {
				t.Errorf("%v: sector %d belongs to %c and to %c", l, sector, owners[sector], owner)
			}
			owners[sector] = owner
		}
		own(0, 's')
		for i := range l.Journal {
			own(r.Journal+i, 'j')
		}
		own(r.Bitmap, 'b')
		for i := range l.Inodes {
			own(r.Table+i, 'i')
		}
		for block := range many {
			n, e := blocks.Sector(l, block)
			if e != api.OK || n != r.Data+block {
				t.Errorf("Sector of %v, %d is %d, %d", l, block, n, e)
			}
			own(n, 'd')
		}
		if string(owners) != ownersOf(l) {
			t.Errorf("%v: the sectors are %q", l, owners)
		}
	}
}

// TestNoBlock: P8.1, blocks that a layout has not.
func TestNoBlock(t *testing.T) {
	for l, many := range layouts {
		list := append([]int{many, many + 1, l.Sectors - 1, l.Sectors, -many, math.MaxInt - l.Sectors}, far...)
		for _, block := range list {
			if n, e := blocks.Sector(l, block); n != 0 || e != api.ErrRange {
				t.Errorf("Sector of %v, %d is %d, %d", l, block, n, e)
			}
		}
	}
}

// TestNew: P8.2, a new state has free blocks alone, and no errors.
func TestNew(t *testing.T) {
	for l, many := range layouts {
		s := fresh(t, l)
		if want := (api.BkState{Layout: l, Used: make([]bool, many)}); !same(s, want) {
			t.Errorf("New of %v is %v", l, s)
		}
		if e := blocks.Check(s); e != api.OK {
			t.Errorf("Check of New of %v is %d", l, e)
		}
		s.Used[0] = true
		if other := fresh(t, l); other.Used[0] {
			t.Errorf("%v: two new states share memory", l)
		}
	}
}

// TestCheck: P8.2, states with and without an error.
func TestCheck(t *testing.T) {
	for s, want := range wrongStates() {
		if e := blocks.Check(s); e != want {
			t.Errorf("Check of %v with %d blocks is %d, not %d", s.Layout, len(s.Used), e, want)
		}
	}
	for l, many := range layouts {
		for n := range 300 {
			want := api.ErrForm
			if n == many {
				want = api.OK
			}
			s := api.BkState{Layout: l, Used: pattern(n, 3)}
			before := copyOf(s)
			if e := blocks.Check(s); e != want || !same(s, before) {
				t.Errorf("Check of %v with %d blocks is %d, or has changed the state", l, n, e)
			}
		}
		if e := blocks.Check(api.BkState{Layout: l}); e != api.ErrForm {
			t.Errorf("Check of %v without blocks is %d", l, e)
		}
	}
}

// TestWrongStates: P8.2 to P8.6, all functions return the error of Check first, and the state that they were given.
func TestWrongStates(t *testing.T) {
	for s, want := range wrongStates() {
		before := copyOf(s)
		for _, near := range []int{0, -1, 1000} {
			for _, many := range []int{0, 1, -1, 1000} {
				if g, list, e := blocks.Alloc(s, near, many); !same(g, before) || len(list) != 0 || e != want {
					t.Errorf("Alloc of a wrong state is %v, %v, %d, not %d", g, list, e, want)
				}
			}
		}
		for _, list := range [][]int{nil, {0}, {0, 0}, {-1}, {1, 2, 3, 4, 1}} {
			if g, e := blocks.Take(s, list); !same(g, before) || e != want {
				t.Errorf("Take of a wrong state is %v, %d, not %d", g, e, want)
			}
			if g, e := blocks.Free(s, list); !same(g, before) || e != want {
				t.Errorf("Free of a wrong state is %v, %d, not %d", g, e, want)
			}
		}
		if n, e := blocks.Count(s); n != 0 || e != want {
			t.Errorf("Count of a wrong state is %d, %d, not %d", n, e, want)
		}
		if runs, e := blocks.Runs(s); len(runs) != 0 || e != want {
			t.Errorf("Runs of a wrong state is %v, %d, not %d", runs, e, want)
		}
		if b, e := blocks.Encode(s); len(b) != 0 || e != want {
			t.Errorf("Encode of a wrong state is %v, %d, not %d", b, e, want)
		}
		if !same(s, before) {
			t.Errorf("a wrong state is %v now, it was %v", s, before)
		}
	}
}

// TestExamples: P8.1 to P8.6, the table of the chapter.
func TestExamples(t *testing.T) {
	l := api.BkLayout{Sectors: 64, Journal: 8, Inodes: 40}
	if r, e := blocks.Regions(l); r != (api.BkRegions{Journal: 1, Bitmap: 9, Table: 10, Data: 50, Blocks: 14}) || e != api.OK {
		t.Errorf("Regions is %v, %d", r, e)
	}
	for _, of := range []struct {
		block, sector int
		e             api.Errno
	}{{0, 50, api.OK}, {13, 63, api.OK}, {14, 0, api.ErrRange}} {
		if n, e := blocks.Sector(l, of.block); n != of.sector || e != of.e {
			t.Errorf("Sector of %d is %d, %d", of.block, n, e)
		}
	}
	if r, e := blocks.Regions(api.BkLayout{Sectors: 64, Journal: 8, Inodes: 46}); r.Blocks != 8 || e != api.OK {
		t.Errorf("Regions with 46 inodes is %v, %d", r, e)
	}
	if _, e := blocks.Regions(api.BkLayout{Sectors: 64, Journal: 8, Inodes: 47}); e != api.ErrFull {
		t.Errorf("Regions with 47 inodes is %d", e)
	}
	s := checkAlloc(t, fresh(t, l), 12, 3, []int{12, 13, 0}, api.OK)
	checkAlloc(t, s, 12, 1, []int{1}, api.OK)
	s = checkAlloc(t, s, 3, 1, []int{3}, api.OK)
	s = checkPut(t, s, []int{3}, false, api.OK)
	s = checkPut(t, s, []int{1}, true, api.OK)
	checkLooks(t, s, []api.BkRun{{From: 2, Many: 10}}, 10)
	checkBytes(t, s, append([]byte{3, 48}, make([]byte, 94)...))
	checkAlloc(t, s, 0, 11, nil, api.ErrSpace)
	checkPut(t, s, []int{12, 12}, false, api.ErrTwice)
	checkPut(t, s, []int{0}, true, api.ErrDown)
}
