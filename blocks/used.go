package blocks

import (
	"iter"
	"slices"

	"limewash/api"
)

// Alloc returns the state in which many more blocks are used, and these blocks: the first free ones from near on.
func Alloc(s api.BkState, near, many int) (t api.BkState, blocks []int, e api.Errno) {
	if e := Check(s); e != api.OK {
		return copyOf(s), nil, e
	}
	if !isFrom(near, 0, len(s.Used)-1) || many < 0 {
		return copyOf(s), nil, api.ErrRange
	}
	for block := range freeFrom(s.Used, near) {
		if len(blocks) == many {
			break
		}
		blocks = append(blocks, block)
	}
	if len(blocks) < many {
		return copyOf(s), nil, api.ErrSpace
	}
	return with(s, blocks, true), blocks, api.OK
}

// Take returns the state in which these blocks are used, too.
func Take(s api.BkState, blocks []int) (api.BkState, api.Errno) {
	return put(s, blocks, true, api.ErrDown)
}

// Free returns the state in which these blocks are free, too.
func Free(s api.BkState, blocks []int) (api.BkState, api.Errno) {
	return put(s, blocks, false, api.ErrNone)
}

// Count returns how many blocks are free.
func Count(s api.BkState) (free int, e api.Errno) {
	if e := Check(s); e != api.OK {
		return 0, e
	}
	for range freeFrom(s.Used, 0) {
		free++
	}
	return free, api.OK
}

// Runs returns all runs of free blocks, ascending.
func Runs(s api.BkState) ([]api.BkRun, api.Errno) {
	if e := Check(s); e != api.OK {
		return nil, e
	}
	var runs []api.BkRun
	for block := range freeFrom(s.Used, 0) {
		if last := len(runs) - 1; last >= 0 && runs[last].From+runs[last].Many == block {
			runs[last].Many++
		} else {
			runs = append(runs, api.BkRun{From: block, Many: 1})
		}
	}
	return runs, api.OK
}

// freeFrom yields the free blocks from near on, then those before near.
func freeFrom(used []bool, near int) iter.Seq[int] {
	return func(yield func(int) bool) {
		for i := range used {
			block := (near + i) % len(used)
			if !used[block] && !yield(block) {
				return
			}
		}
	}
}

// put returns the state in which these blocks are used, or free, or the error already if one of them is so before.
func put(s api.BkState, blocks []int, used bool, already api.Errno) (api.BkState, api.Errno) {
	if e := Check(s); e != api.OK {
		return copyOf(s), e
	}
	if e := checkList(blocks, len(s.Used)); e != api.OK {
		return copyOf(s), e
	}
	for _, block := range blocks {
		if s.Used[block] == used {
			return copyOf(s), already
		}
	}
	return with(s, blocks, used), api.OK
}

// checkList returns what is wrong with a list of blocks, of which there are many.
func checkList(blocks []int, many int) api.Errno {
	var met [api.MaxSectors]bool
	for _, block := range blocks {
		if !isFrom(block, 0, many-1) {
			return api.ErrRange
		}
		if met[block] {
			return api.ErrTwice
		}
		met[block] = true
	}
	return api.OK
}

// with returns the state in which these blocks are used, or free, and all others as in s.
func with(s api.BkState, blocks []int, used bool) api.BkState {
	t := copyOf(s)
	for _, block := range blocks {
		t.Used[block] = used
	}
	return t
}

// copyOf returns a state like s that shares no memory with it.
func copyOf(s api.BkState) api.BkState {
	s.Used = slices.Clone(s.Used)
	return s
}
