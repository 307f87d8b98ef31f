package blocks_test

import (
	"math"
	"math/rand"
	"slices"
	"testing"

	"limewash/api"
	"limewash/blocks"
)

// checkAlloc compares Alloc with the list and the error wanted, sees that it is given the state that these say in new memory, and returns that.
func checkAlloc(t *testing.T, s api.BkState, near, many int, list []int, want api.Errno) api.BkState {
	t.Helper()
	before := copyOf(s)
	g, got, e := blocks.Alloc(s, near, many)
	if !slices.Equal(got, list) || e != want || !same(g, changed(before, list, true)) {
		t.Fatalf("Alloc of %d near %d of %v is %v, %v, %d, not %v, %d", many, near, s, g, got, e, list, want)
	}
	checkApart(t, s, before, g)
	return g
}

// checkPut compares Take, or Free without used, with the error wanted, sees that it gives the state that this says in new memory, and returns that.
func checkPut(t *testing.T, s api.BkState, list []int, used bool, want api.Errno) api.BkState {
	t.Helper()
	before, listBefore := copyOf(s), slices.Clone(list)
	after := before
	if want == api.OK {
		after = changed(before, list, used)
	}
	call := blocks.Free
	if used {
		call = blocks.Take
	}
	g, e := call(s, list)
	if !same(g, after) || e != want || !slices.Equal(list, listBefore) {
		t.Fatalf("used %v: %v of %v is %v, %d, not %d", used, list, s, g, e, want)
	}
	checkApart(t, s, before, g)
	return g
}

// checkApart sees that s is as it was before, and that it shares no memory with g.
func checkApart(t *testing.T, s, before, g api.BkState) {
	t.Helper()
	for i := range g.Used {
		g.Used[i] = !g.Used[i]
	}
	if !same(s, before) {
		t.Fatalf("the state that was given is %v now, it was %v", s, before)
	}
	for i := range g.Used {
		g.Used[i] = !g.Used[i]
	}
}

// checkLooks compares Runs and Count with what is wanted.
func checkLooks(t *testing.T, s api.BkState, runs []api.BkRun, free int) {
	t.Helper()
	before := copyOf(s)
	if got, e := blocks.Runs(s); !slices.Equal(got, runs) || e != api.OK {
		t.Fatalf("Runs of %v is %v, %d, not %v", s, got, e, runs)
	}
	if n, e := blocks.Count(s); n != free || e != api.OK {
		t.Fatalf("Count of %v is %d, %d, not %d", s, n, e, free)
	}
	sum := 0
	for _, run := range runs {
		sum += run.Many
	}
	if sum != free || !same(s, before) {
		t.Fatalf("Runs of %v have %d blocks, not %d, or the state has changed", before, sum, free)
	}
}

// TestAllocAll: P8.3, P8.8, P8.9, with all states of 8 blocks, from all blocks, as many as there are and more.
func TestAllocAll(t *testing.T) {
	for s := range states(with8, 8) {
		for near := -2; near < 10; near++ {
			for many := -2; many < 11; many++ {
				_, list, e := alloc(s, near, many)
				checkAlloc(t, s, near, many, list, e)
			}
		}
	}
}

// TestAlloc: P8.3, P8.9, with states of all sizes, and numbers that are far from any block.
func TestAlloc(t *testing.T) {
	r := rand.New(rand.NewSource(8))
	for l, n := range layouts {
		for _, s := range someStates(r, l, n) {
			free := len(freeOf(s))
			for _, near := range append([]int{0, 1, n / 2, n - 2, n - 1, n, n + 1, r.Intn(n)}, far...) {
				for _, many := range append([]int{0, 1, 2, free / 2, free - 1, free, free + 1, n, n + 1}, far...) {
					_, list, e := alloc(s, near, many)
					checkAlloc(t, s, near, many, list, e)
				}
			}
		}
	}
}

// TestAllocErrors: P8.3, in their order.
func TestAllocErrors(t *testing.T) {
	for l, n := range layouts {
		full := api.BkState{Layout: l, Used: slices.Repeat([]bool{true}, n)}
		for _, s := range []api.BkState{full, fresh(t, l)} {
			for _, many := range []int{-1, 0, 1, n + 1, math.MaxInt, math.MinInt} {
				checkAlloc(t, s, -1, many, nil, api.ErrRange)
				checkAlloc(t, s, n, many, nil, api.ErrRange)
			}
			for _, near := range []int{0, n - 1} {
				checkAlloc(t, s, near, -1, nil, api.ErrRange)
				checkAlloc(t, s, near, 0, nil, api.OK)
				checkAlloc(t, s, near, n+1, nil, api.ErrSpace)
				checkAlloc(t, s, near, math.MaxInt, nil, api.ErrSpace)
			}
		}
		checkAlloc(t, full, 0, 1, nil, api.ErrSpace)
	}
}

// TestFirstFree: P8.8, no block was used before, all between near and the last one are used after it, and Free and Take undo each other.
func TestFirstFree(t *testing.T) {
	r := rand.New(rand.NewSource(9))
	for l, n := range layouts {
		for _, s := range someStates(r, l, n) {
			near := r.Intn(n)
			for many := range len(freeOf(s)) + 1 {
				after, list, e := blocks.Alloc(s, near, many)
				if e != api.OK || len(list) != many {
					t.Fatalf("Alloc of %d is %v, %d", many, list, e)
				}
				at := near
				for _, block := range list {
					for ; at != block; at = (at + 1) % n {
						if !s.Used[at] {
							t.Fatalf("Alloc of %d near %d of %v is %v, but %d is free", many, near, s, list, at)
						}
					}
					if s.Used[block] {
						t.Fatalf("Alloc of %d near %d of %v is %v, but %d is used", many, near, s, list, block)
					}
					at = (at + 1) % n
				}
				freed, e := blocks.Free(after, list)
				if e != api.OK || !same(freed, s) {
					t.Fatalf("Free of %v is %v, %d, not %v", list, freed, e, s)
				}
				taken, e := blocks.Take(freed, list)
				if e != api.OK || !same(taken, after) {
					t.Fatalf("Take of %v is %v, %d, not %v", list, taken, e, after)
				}
			}
		}
	}
}

// TestPutAll: P8.4, P8.9, all states of 8 blocks with all lists of at most three numbers, also such that are no blocks.
func TestPutAll(t *testing.T) {
	for s := range states(with8, 8) {
		for list := range lists(-1, 8, 3) {
			for _, used := range []bool{true, false} {
				_, e := put(s, list, used)
				checkPut(t, s, list, used, e)
			}
		}
	}
}

// TestPut: P8.4, P8.9, states of all sizes with long lists.
func TestPut(t *testing.T) {
	r := rand.New(rand.NewSource(10))
	for l, n := range layouts {
		for _, s := range someStates(r, l, n) {
			for range 40 {
				list := r.Perm(n)[:r.Intn(n+1)]
				used := r.Intn(2) == 0
				if r.Intn(2) == 0 {
					list = slices.DeleteFunc(list, func(block int) bool { return s.Used[block] == used })
				}
				if r.Intn(4) == 0 && len(list) > 0 {
					list = append(list, list[r.Intn(len(list))])
				}
				if r.Intn(4) == 0 {
					list = append(list, append([]int{n, n + 1}, far...)[r.Intn(2+len(far))])
				}
				_, e := put(s, list, used)
				checkPut(t, s, list, used, e)
			}
		}
	}
}

// TestPutErrors: P8.4, in their order: those of the list by the first block with one, then those of what is used.
func TestPutErrors(t *testing.T) {
	for l, n := range layouts {
		full := api.BkState{Layout: l, Used: slices.Repeat([]bool{true}, n)}
		none := fresh(t, l)
		for _, of := range []struct {
			s       api.BkState
			used    bool
			already api.Errno
		}{{full, true, api.ErrDown}, {none, false, api.ErrNone}, {none, true, api.OK}, {full, false, api.OK}} {
			for _, block := range append([]int{n, n + 1, 256}, far...) {
				checkPut(t, of.s, []int{block}, of.used, api.ErrRange)
				checkPut(t, of.s, []int{3, block}, of.used, api.ErrRange)
				checkPut(t, of.s, []int{block, 3, 3}, of.used, api.ErrRange)
				checkPut(t, of.s, []int{3, 3, block}, of.used, api.ErrTwice)
				checkPut(t, of.s, []int{block, block}, of.used, api.ErrRange)
			}
			checkPut(t, of.s, []int{0, n - 1, 0}, of.used, api.ErrTwice)
			checkPut(t, of.s, make([]int, 1000), of.used, api.ErrTwice)
			checkPut(t, of.s, []int{n - 1, 0}, of.used, of.already)
			checkPut(t, of.s, nil, of.used, api.OK)
			checkPut(t, of.s, []int{}, of.used, api.OK)
		}
		one := checkPut(t, none, []int{2}, true, api.OK)
		checkPut(t, one, []int{1, 2}, true, api.ErrDown)
		checkPut(t, one, []int{2, 1}, true, api.ErrDown)
		checkPut(t, one, []int{2, 1}, false, api.ErrNone)
		checkPut(t, one, []int{1, 2}, false, api.ErrNone)
		checkPut(t, one, []int{2, 2}, true, api.ErrTwice)
		checkPut(t, one, []int{1, 1}, false, api.ErrTwice)
	}
}

// TestLooksAll: P8.5, P8.9, all states of 8 and of 14 blocks.
func TestLooksAll(t *testing.T) {
	for s := range states(with8, 8) {
		checkLooks(t, s, runsOf(s), len(freeOf(s)))
	}
	for s := range states(with14, 14) {
		checkLooks(t, s, runsOf(s), len(freeOf(s)))
	}
}

// TestLooks: P8.5, P8.9, states of all sizes.
func TestLooks(t *testing.T) {
	r := rand.New(rand.NewSource(11))
	for range 50 {
		for l, n := range layouts {
			for _, s := range someStates(r, l, n) {
				checkLooks(t, s, runsOf(s), len(freeOf(s)))
			}
		}
	}
}

// TestNewMemory: P8.9, what is appended to results does not write to arguments, and results of two calls share nothing.
func TestNewMemory(t *testing.T) {
	used, rest := roomy(make([]bool, 14))
	list, listRest := roomy([]int{4, 5})
	s := api.BkState{Layout: with14, Used: used}
	a, one, _ := blocks.Alloc(s, 2, 2)
	_, two, _ := blocks.Alloc(s, 2, 2)
	taken, _ := blocks.Take(s, list)
	again, _ := blocks.Take(s, list)
	wrong, _ := blocks.Free(s, list)
	cut := api.BkState{Layout: with14, Used: used[:3]}
	short, _, _ := blocks.Alloc(cut, 0, 0)
	empty := api.BkState{Layout: with14, Used: used[:0]}
	blank, _ := blocks.Take(empty, nil)
	for _, g := range []api.BkState{a, taken, wrong, short, blank} {
		for range 8 {
			g.Used = append(g.Used, true)
			g.Used[0] = true
		}
	}
	one = append(one, 9, 9, 9)
	one[0] = 9
	if !slices.Equal(two, []int{2, 3}) {
		t.Errorf("the lists of two calls share memory: %v", two)
	}
	for _, used := range [][]bool{used, rest, again.Used[:4], again.Used[6:]} {
		if slices.Contains(used, true) {
			t.Errorf("a result shares memory with the state that was given, or with that of another call")
		}
	}
	if !slices.Equal(list, []int{4, 5}) || !slices.Equal(listRest, make([]int, 4)) {
		t.Errorf("the list that was given is %v, %v now", list, listRest)
	}
}
