package device_test

import (
	"bytes"
	"math"
	"slices"
	"testing"

	"limewash/api"
	"limewash/device"
)

// far are integers that no device has sectors or writes at.
var far = []int{-1, -2, api.MaxSectors, api.MaxDvCache, 1 << 31, 1 << 32, math.MaxInt - 1, math.MaxInt, math.MinInt, math.MinInt + 1}

// farCounts are integers that are neither a count of writes nor a power.
var farCounts = []int64{-2, -3, api.MaxDvTaken + 1, math.MaxInt64 - 1, math.MaxInt64, math.MinInt64, math.MinInt64 + 1}

// of is a sector whose bytes are all b.
func of(b byte) api.Sector {
	return api.Sector(bytes.Repeat([]byte{b}, api.SectorBytes))
}

// write is a write of a sector whose bytes are all b.
func write(at int, b byte) api.DvWrite {
	return api.DvWrite{At: at, Data: of(b)}
}

// stateOf is the state of a new device with these writes in its cache.
func stateOf(sectors int, cache ...api.DvWrite) api.DvState {
	return api.DvState{Stable: make([]api.Sector, sectors), Cache: cache, Power: -1}
}

// load is the device with the state s.
func load(t *testing.T, s api.DvState) *device.Dev {
	t.Helper()
	d, e := device.Load(s)
	if e != api.OK {
		t.Fatalf("Load is %d", e)
	}
	return d
}

// fresh is a new device.
func fresh(t *testing.T, sectors int) *device.Dev {
	t.Helper()
	d, e := device.New(sectors)
	if e != api.OK {
		t.Fatalf("New(%d) is %d", sectors, e)
	}
	return d
}

// copyOf is a copy of s that shares no memory with it.
func copyOf(s api.DvState) api.DvState {
	s.Stable = slices.Clone(s.Stable)
	s.Cache = slices.Clone(s.Cache)
	return s
}

// same is whether a and b are the same state.
func same(a, b api.DvState) bool {
	return slices.Equal(a.Stable, b.Stable) && slices.Equal(a.Cache, b.Cache) && a.Taken == b.Taken && a.Power == b.Power && a.Off == b.Off
}

// readsAs is what the sector n of a device with the state s reads as.
func readsAs(s api.DvState, n int) api.Sector {
	for _, w := range slices.Backward(s.Cache) {
		if w.At == n {
			return w.Data
		}
	}
	return s.Stable[n]
}

// checkState compares all that is told of d with the state want.
func checkState(t *testing.T, d *device.Dev, want api.DvState) {
	t.Helper()
	if !same(d.Save(), want) {
		t.Fatalf("Save is another state: %s, not %s", textOf(d.Save()), textOf(want))
	}
	if d.Sectors() != len(want.Stable) || d.Pending() != len(want.Cache) || d.Taken() != want.Taken || d.On() == want.Off {
		t.Fatalf("%d sectors, %d pending, %d taken, on: %v, not as %s", d.Sectors(), d.Pending(), d.Taken(), d.On(), textOf(want))
	}
	for n := range want.Stable {
		s, e := d.Read(n)
		if want.Off && (s != api.Sector{} || e != api.ErrPower) {
			t.Fatalf("Read(%d) of a device that is off is %v, %d", n, s, e)
		}
		if !want.Off && (s != readsAs(want, n) || e != api.OK) {
			t.Fatalf("Read(%d) is %v, %d, not %v", n, s, e, readsAs(want, n))
		}
	}
}

// subsets are all ascending lists of numbers below n.
func subsets(n int) [][]int {
	var l [][]int
	for set := range 1 << n {
		var keep []int
		for i := range n {
			if set>>i&1 == 1 {
				keep = append(keep, i)
			}
		}
		l = append(l, keep)
	}
	return l
}
