package blocks_test

import (
	"slices"
	"strings"

	"limewash/api"
)

// ownersOf is a letter for each sector of a device with the layout l: the superblock, journal, bitmap, inodes or data.
func ownersOf(l api.BkLayout) string {
	text := "s" + strings.Repeat("j", l.Journal) + "b" + strings.Repeat("i", l.Inodes)
	return text + strings.Repeat("d", max(0, l.Sectors-len(text)))
}

// regionsOf is P8.1 for a layout whose numbers are in their ranges.
func regionsOf(l api.BkLayout) (api.BkRegions, api.Errno) {
	owners := ownersOf(l)
	many := strings.Count(owners, "d")
	if many < 8 {
		return api.BkRegions{}, api.ErrFull
	}
	return api.BkRegions{
		Journal: strings.Index(owners, "j"),
		Bitmap:  strings.Index(owners, "b"),
		Table:   strings.Index(owners, "i"),
		Data:    strings.Index(owners, "d"),
		Blocks:  many,
	}, api.OK
}

// freeOf are the free blocks of a state, ascending.
func freeOf(s api.BkState) []int {
	var list []int
	for block, used := range s.Used {
		if !used {
			list = append(list, block)
		}
	}
	return list
}

// changed is s with other values for these blocks.
func changed(s api.BkState, list []int, used bool) api.BkState {
	s = copyOf(s)
	for _, block := range list {
		s.Used[block] = used
	}
	return s
}

// alloc is P8.3 for a state without an error.
func alloc(s api.BkState, near, many int) (api.BkState, []int, api.Errno) {
	if near < 0 || near >= len(s.Used) || many < 0 {
		return s, nil, api.ErrRange
	}
	// Sorted as they are met, with those before near as if they came after the last block.
	met := freeOf(s)
	key := func(block int) int {
		if block < near {
			return block + len(s.Used)
		}
		return block
	}
	slices.SortFunc(met, func(a, b int) int { return key(a) - key(b) })
	if len(met) < many {
		return s, nil, api.ErrSpace
	}
	return changed(s, met[:many], true), met[:many], api.OK
}

// put is P8.4 for a state without an error: Take with used, Free without it.
func put(s api.BkState, list []int, used bool) (api.BkState, api.Errno) {
	for i, block := range list {
		if block < 0 || block >= len(s.Used) {
			return s, api.ErrRange
		}
		if slices.Contains(list[:i], block) {
			return s, api.ErrTwice
		}
	}
	for _, block := range list {
		if s.Used[block] && used {
			return s, api.ErrDown
		}
		if !s.Used[block] && !used {
			return s, api.ErrNone
		}
	}
	return changed(s, list, used), api.OK
}

// runsOf is P8.5: every pair of a block and a number that the definition of a run admits.
func runsOf(s api.BkState) []api.BkRun {
	free := func(block int) bool { return block >= 0 && block < len(s.Used) && !s.Used[block] }
	var runs []api.BkRun
	for from := range s.Used {
		if !free(from) || free(from-1) {
			continue
		}
		many := 1
		for free(from + many) {
			many++
		}
		runs = append(runs, api.BkRun{From: from, Many: many})
	}
	return runs
}

// bitmapOf is the bitmap of a state.
func bitmapOf(s api.BkState) []byte {
	b := make([]byte, 96)
	for _, value := range []struct{ bit, byte int }{{0, 1}, {1, 2}, {2, 4}, {3, 8}, {4, 16}, {5, 32}, {6, 64}, {7, 128}} {
		for block := value.bit; block < len(s.Used); block += 8 {
			if s.Used[block] {
				b[block/8] += byte(value.byte)
			}
		}
	}
	return b
}
