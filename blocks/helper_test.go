package blocks_test

import (
	"iter"
	"math"
	"math/rand"
	"slices"
	"testing"

	"limewash/api"
	"limewash/blocks"
)

// far are integers that no number of a layout and no block has.
var far = []int{-1, -2, 257, 1 << 31, 1 << 32, math.MaxInt - 1, math.MaxInt, math.MinInt, math.MinInt + 1}

// Layouts with as many blocks as their names say.
var (
	with8   = api.BkLayout{Sectors: 64, Journal: 8, Inodes: 46}
	with14  = api.BkLayout{Sectors: 64, Journal: 8, Inodes: 40}
	with16  = api.BkLayout{Sectors: 70, Journal: 51, Inodes: 1}
	with98  = api.BkLayout{Sectors: 256, Journal: 96, Inodes: 60}
	with245 = api.BkLayout{Sectors: 256, Journal: 8, Inodes: 1}
)

// layouts yields those above, with how many blocks each has.
func layouts(yield func(l api.BkLayout, many int) bool) {
	_ = yield(with8, 8) && yield(with14, 14) && yield(with16, 16) && yield(with98, 98) && yield(with245, 245)
}

// wrongLayouts are some with an error, and this error.
func wrongLayouts() map[api.BkLayout]api.Errno {
	l := map[api.BkLayout]api.Errno{
		{}:                                      api.ErrRange,
		{Sectors: 63, Journal: 8, Inodes: 1}:    api.ErrRange,
		{Sectors: 257, Journal: 8, Inodes: 1}:   api.ErrRange,
		{Sectors: 64, Journal: 7, Inodes: 1}:    api.ErrRange,
		{Sectors: 256, Journal: 97, Inodes: 1}:  api.ErrRange,
		{Sectors: 64, Journal: 97, Inodes: 1}:   api.ErrRange,
		{Sectors: 64, Journal: 8, Inodes: 0}:    api.ErrRange,
		{Sectors: 256, Journal: 8, Inodes: 61}:  api.ErrRange,
		{Sectors: 64, Journal: 60, Inodes: 61}:  api.ErrRange,
		{Sectors: 64, Journal: 8, Inodes: 47}:   api.ErrFull,
		{Sectors: 64, Journal: 54, Inodes: 1}:   api.ErrFull,
		{Sectors: 64, Journal: 96, Inodes: 60}:  api.ErrFull,
		{Sectors: 165, Journal: 96, Inodes: 60}: api.ErrFull,
	}
	for _, n := range far {
		l[api.BkLayout{Sectors: n, Journal: 8, Inodes: 1}] = api.ErrRange
		l[api.BkLayout{Sectors: 256, Journal: n, Inodes: 1}] = api.ErrRange
		l[api.BkLayout{Sectors: 256, Journal: 8, Inodes: n}] = api.ErrRange
		l[api.BkLayout{Sectors: n, Journal: n, Inodes: n}] = api.ErrRange
	}
	// A sum of such numbers is a small one again.
	l[api.BkLayout{Sectors: 256, Journal: math.MaxInt, Inodes: math.MinInt}] = api.ErrRange
	l[api.BkLayout{Sectors: math.MinInt + 256, Journal: math.MaxInt, Inodes: 1}] = api.ErrRange
	return l
}

// wrongStates are some with an error, and this error.
func wrongStates() iter.Seq2[api.BkState, api.Errno] {
	return func(yield func(api.BkState, api.Errno) bool) {
		for l, e := range wrongLayouts() {
			for _, n := range []int{0, 7, 8, 14, 245} {
				if !yield(api.BkState{Layout: l, Used: pattern(n, 1)}, e) {
					return
				}
			}
		}
		for l, many := range layouts {
			for _, n := range []int{0, 1, many - 1, many + 1, 256, 1000} {
				if !yield(api.BkState{Layout: l, Used: pattern(n, 2)}, api.ErrForm) {
					return
				}
			}
		}
	}
}

// pattern is n bools, some of them true.
func pattern(n int, seed int64) []bool {
	r := rand.New(rand.NewSource(seed))
	used := make([]bool, n)
	for i := range used {
		used[i] = r.Intn(3) == 0
	}
	return used
}

// states yields every state with the layout l, which has many blocks.
func states(l api.BkLayout, many int) iter.Seq[api.BkState] {
	return func(yield func(api.BkState) bool) {
		for x := range 1 << many {
			used := make([]bool, many)
			for i := range used {
				used[i] = x>>i&1 == 1
			}
			if !yield(api.BkState{Layout: l, Used: used}) {
				return
			}
		}
	}
}

// someStates are states of l with many blocks: without used ones, without free ones, and others.
func someStates(r *rand.Rand, l api.BkLayout, many int) []api.BkState {
	var list []api.BkState
	for _, of := range []int{0, 1, 2, 3, 5, 9, 10} {
		used := make([]bool, many)
		for i := range used {
			used[i] = r.Intn(10) < of
		}
		list = append(list, api.BkState{Layout: l, Used: used})
	}
	return list
}

// lists yields every list of at most most numbers from low to high.
func lists(low, high, most int) iter.Seq[[]int] {
	return func(yield func([]int) bool) {
		var longer func(list []int) bool
		longer = func(list []int) bool {
			if !yield(list) {
				return false
			}
			for n := low; n <= high && len(list) < most; n++ {
				if !longer(append(slices.Clone(list), n)) {
					return false
				}
			}
			return true
		}
		longer(nil)
	}
}

// fresh is the state of l in which all blocks are free.
func fresh(t *testing.T, l api.BkLayout) api.BkState {
	t.Helper()
	s, e := blocks.New(l)
	if e != api.OK {
		t.Fatalf("New of %v is %d", l, e)
	}
	return s
}

// copyOf is a copy of s that shares no memory with it.
func copyOf(s api.BkState) api.BkState {
	return api.BkState{Layout: s.Layout, Used: append([]bool{}, s.Used...)}
}

// same is whether a and b are the same state.
func same(a, b api.BkState) bool {
	return a.Layout == b.Layout && slices.Equal(a.Used, b.Used)
}

// roomy is a copy of list that ends within a longer array, of which rest are the elements that follow.
func roomy[T any](list []T) (copied, rest []T) {
	array := make([]T, len(list)+4)
	copy(array, list)
	return array[:len(list)], array[len(list):]
}
