package device_test

import (
	"math"
	"slices"
	"testing"

	"limewash/api"
)

// someWrites are writes of which several are of the same sectors.
func someWrites() []api.DvWrite {
	return []api.DvWrite{write(1, 1), write(2, 2), write(1, 3), write(3, 4), write(1, 5), write(2, 6), write(63, 7)}
}

// someState is a state with someWrites over sectors that are not blank.
func someState() api.DvState {
	s := stateOf(64, someWrites()...)
	for n := range s.Stable {
		s.Stable[n] = of(byte(100 + n))
	}
	s.Taken, s.Power = 20, 30
	return s
}

// TestFlush: P6.3, all writes become stable; not those of a device that is off.
func TestFlush(t *testing.T) {
	s := someState()
	d := load(t, s)
	want := copyOf(s)
	for n := range want.Stable {
		want.Stable[n] = readsAs(s, n)
	}
	want.Cache = nil
	for range 2 {
		checkErrors(t, []api.Errno{d.Flush()}, api.OK)
		checkState(t, d, want)
	}
	s.Off = true
	d = load(t, s)
	checkErrors(t, []api.Errno{d.Flush()}, api.ErrPower)
	checkState(t, d, s)
	s.Off, s.Power, s.Taken = false, 0, api.MaxDvTaken
	d = load(t, s)
	checkErrors(t, []api.Errno{d.Flush()}, api.OK)
	want.Power, want.Taken = 0, api.MaxDvTaken
	checkState(t, d, want)
}

// TestLimit: P6.3, the numbers that are a power, and those that are not; a device that is off stays so.
func TestLimit(t *testing.T) {
	for _, off := range []bool{false, true} {
		s := someState()
		s.Off = off
		d := load(t, s)
		for _, n := range []int64{5, -1, 0, 1, 399, 400, 1 << 31, 1 << 32, api.MaxDvTaken - 1, api.MaxDvTaken, 0, -1} {
			checkErrors(t, []api.Errno{d.Limit(n)}, api.OK)
			s.Power = n
			checkState(t, d, s)
			for _, wrong := range farCounts {
				checkErrors(t, []api.Errno{d.Limit(wrong)}, api.ErrRange)
			}
			checkState(t, d, s)
		}
	}
}

// TestLimitAfter: P6.7, a limit is of the writes after it, also if there was one before.
func TestLimitAfter(t *testing.T) {
	for n := range int64(6) {
		d := fresh(t, 64)
		checkErrors(t, []api.Errno{d.Limit(3), d.Write(0, of(1)), d.Limit(n)}, api.OK, api.OK, api.OK)
		for range n {
			checkErrors(t, []api.Errno{d.Write(1, of(2)), d.Flush()}, api.OK, api.OK)
		}
		checkErrors(t, []api.Errno{d.Write(1, of(3)), d.Limit(4), d.Write(1, of(3)), d.Flush()}, api.ErrPower, api.OK, api.ErrPower, api.ErrPower)
		if d.Taken() != n+1 || d.On() {
			t.Errorf("%d writes, on: %v", d.Taken(), d.On())
		}
	}
}

// TestCrash: P6.3 and P6.6, a sector reads as the last one of its writes that was kept, or as it was stable.
func TestCrash(t *testing.T) {
	for _, off := range []bool{false, true} {
		s := someState()
		s.Off = off
		for _, keep := range subsets(len(s.Cache)) {
			d := load(t, s)
			given := slices.Clone(keep)
			checkErrors(t, []api.Errno{d.Crash(given)}, api.OK)
			m := &model{copyOf(s)}
			m.keepOnly(keep)
			m.s.Power, m.s.Off = -1, false
			checkState(t, d, m.s)
			if !slices.Equal(given, keep) {
				t.Errorf("Crash has changed %v to %v", keep, given)
			}
			checkErrors(t, []api.Errno{d.Crash(nil)}, api.OK)
			checkState(t, d, m.s)
		}
	}
}

// TestCrashAll: P6.6, a crash that keeps all is as a flush, one that keeps nothing undoes all since the last one; also with a full cache.
func TestCrashAll(t *testing.T) {
	s := stateOf(64, manyWrites(400)...)
	kept, flushed, lost := load(t, s), load(t, s), load(t, s)
	var all []int
	for i := range 400 {
		all = append(all, i)
	}
	checkErrors(t, []api.Errno{kept.Crash(all), flushed.Flush(), lost.Crash(nil)}, api.OK, api.OK, api.OK)
	checkState(t, kept, flushed.Save())
	checkState(t, lost, stateOf(64))
	last := load(t, s)
	checkErrors(t, []api.Errno{last.Crash([]int{399})}, api.OK)
	want := stateOf(64)
	want.Stable[399%50] = of(399 % 256)
	checkState(t, last, want)
}

// TestSurvives: P6.6, what was flushed survives every crash.
func TestSurvives(t *testing.T) {
	base := load(t, someState())
	checkErrors(t, []api.Errno{base.Flush(), base.Write(2, of(50)), base.Write(4, of(51)), base.Write(2, of(52))}, api.OK, api.OK, api.OK, api.OK)
	for _, keep := range subsets(3) {
		d := load(t, base.Save())
		checkErrors(t, []api.Errno{d.Crash(keep)}, api.OK)
		checkRead(t, d, 1, of(5), api.OK)
		checkRead(t, d, 3, of(4), api.OK)
		checkRead(t, d, 63, of(7), api.OK)
		want := of(6)
		if slices.Contains(keep, 0) {
			want = of(50)
		}
		if slices.Contains(keep, 2) {
			want = of(52)
		}
		checkRead(t, d, 2, want, api.OK)
	}
}

// TestCrashErrors: P6.3, indices without a write come before a list that is not ascending; nothing changes.
func TestCrashErrors(t *testing.T) {
	for _, off := range []bool{false, true} {
		s := someState()
		s.Off = off
		d := load(t, s)
		for _, keep := range [][]int{{7}, {-1}, {0, 7}, {6, 7}, {7, 0}, {-1, 0}, {1, 0, 7}, {3, 3, -1}, {0, 1, 2, 3, 4, 5, 6, 7}, {400}, {1 << 32}, {math.MaxInt}, {math.MinInt}, {0, math.MaxInt}} {
			checkErrors(t, []api.Errno{d.Crash(keep)}, api.ErrRange)
			checkState(t, d, s)
		}
		for _, keep := range [][]int{{0, 0}, {1, 0}, {6, 6}, {0, 1, 1}, {0, 2, 1}, {2, 0, 1}, {1, 2, 3, 4, 5, 6, 0}, {0, 1, 2, 3, 4, 5, 6, 6}, make([]int, 1000)} {
			checkErrors(t, []api.Errno{d.Crash(keep)}, api.ErrForm)
			checkState(t, d, s)
		}
	}
	d := fresh(t, 64)
	checkErrors(t, []api.Errno{d.Crash([]int{0}), d.Crash([]int{-1}), d.Crash([]int{}), d.Crash(nil)}, api.ErrRange, api.ErrRange, api.OK, api.OK)
	checkErrors(t, []api.Errno{d.Write(0, of(1)), d.Flush(), d.Crash([]int{0})}, api.OK, api.OK, api.ErrRange)
	checkRead(t, d, 0, of(1), api.OK)
}

// TestAfterCrash: P6.3 and P6.5, a device goes on after a crash; what was lost does not come back.
func TestAfterCrash(t *testing.T) {
	d := load(t, someState())
	checkErrors(t, []api.Errno{d.Limit(0), d.Write(1, of(9)), d.Crash([]int{0, 3}), d.Write(2, of(8))}, api.OK, api.ErrPower, api.OK, api.OK)
	want := someState()
	want.Stable[1], want.Stable[3] = of(1), of(4)
	want.Cache, want.Taken, want.Power = []api.DvWrite{write(2, 8)}, 21, -1
	checkState(t, d, want)
	checkErrors(t, []api.Errno{d.Crash(nil)}, api.OK)
	want.Cache = nil
	checkState(t, d, want)
}
