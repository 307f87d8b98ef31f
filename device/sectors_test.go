package device_test

import (
	"slices"
	"testing"

	"limewash/api"
	"limewash/device"
)

// TestSectors: P6.2 and P6.5, each sector reads as what was written last to it, and others stay as they are.
func TestSectors(t *testing.T) {
	for _, n := range []int{64, 65, 255, 256} {
		d, want := fresh(t, n), stateOf(n)
		for i := range n {
			at := i * 37 % n
			w := write(at, byte(at+1))
			w.Data[at%api.SectorBytes] = 255
			if e := d.Write(at, w.Data); e != api.OK {
				t.Fatalf("Write(%d) of %d sectors is %d", at, n, e)
			}
			want.Cache = append(want.Cache, w)
			want.Taken++
		}
		checkState(t, d, want)
		for range 2 {
			checkErrors(t, []api.Errno{d.Write(n-1, of(7)), d.Write(0, of(8)), d.Write(n-1, of(9))}, api.OK, api.OK, api.OK)
			checkRead(t, d, n-1, of(9), api.OK)
			checkRead(t, d, 0, of(8), api.OK)
			checkRead(t, d, 1, readsAs(want, 1), api.OK)
			checkErrors(t, []api.Errno{d.Flush()}, api.OK)
			checkRead(t, d, n-1, of(9), api.OK)
			checkRead(t, d, 0, of(8), api.OK)
			checkRead(t, d, 1, readsAs(want, 1), api.OK)
		}
	}
}

// TestWriteSame: P6.2, a write of what the sector has already is a write as any other one.
func TestWriteSame(t *testing.T) {
	d := fresh(t, 64)
	checkErrors(t, []api.Errno{d.Write(2, of(0)), d.Write(2, of(0)), d.Write(2, of(1)), d.Write(2, of(1))}, api.OK, api.OK, api.OK, api.OK)
	want := stateOf(64, write(2, 0), write(2, 0), write(2, 1), write(2, 1))
	want.Taken = 4
	checkState(t, d, want)
}

// TestNoSector: P6.2, sectors that are not there; if the device is off, it is ErrPower.
func TestNoSector(t *testing.T) {
	for _, n := range []int{64, 100, 256} {
		for _, power := range []int64{-1, 0, 5} {
			for _, taken := range []int64{3, api.MaxDvTaken} {
				s := stateOf(n, manyWrites(400)...)
				s.Power, s.Taken = power, taken
				d := load(t, s)
				for _, at := range append([]int{n, n + 1}, far...) {
					if at >= 0 && at < n {
						continue
					}
					checkRead(t, d, at, api.Sector{}, api.ErrRange)
					checkErrors(t, []api.Errno{d.Write(at, of(1))}, api.ErrRange)
				}
				checkState(t, d, s)
				s.Off = true
				d = load(t, s)
				for _, at := range append([]int{0, n - 1, n}, far...) {
					checkRead(t, d, at, api.Sector{}, api.ErrPower)
					checkErrors(t, []api.Errno{d.Write(at, of(1))}, api.ErrPower)
				}
				checkState(t, d, s)
			}
		}
	}
}

// TestPower: P6.2 and P6.7, a device takes as many writes as its power is, and the next one leaves nothing.
func TestPower(t *testing.T) {
	for _, loaded := range []bool{false, true} {
		for n := range 12 {
			d, want := fresh(t, 64), stateOf(64)
			want.Power = int64(n)
			if loaded {
				d = load(t, want)
			} else {
				checkErrors(t, []api.Errno{d.Limit(int64(n))}, api.OK)
			}
			for i := range n {
				checkState(t, d, want)
				checkErrors(t, []api.Errno{d.Write(i, of(1))}, api.OK)
				want.Cache = append(want.Cache, write(i, 1))
				want.Taken++
				want.Power--
			}
			checkState(t, d, want)
			want.Off = true
			for range 3 {
				checkErrors(t, []api.Errno{d.Write(0, of(2))}, api.ErrPower)
				checkState(t, d, want)
			}
		}
	}
}

// TestPowerOfAny: P6.2, with a power of -1 the device takes any number of writes, and it stays -1.
func TestPowerOfAny(t *testing.T) {
	d := fresh(t, 64)
	for i := range 5000 {
		if e := d.Write(i%64, of(byte(i))); e != api.OK {
			t.Fatalf("write %d is %d", i, e)
		}
	}
	if s := d.Save(); s.Power != -1 || s.Off || s.Taken != 5000 || len(s.Cache) != 200 {
		t.Errorf("after 5000 writes: %s", textOf(s))
	}
}

// TestMostTaken: P6.2, a device that has taken 10^12 writes takes no more, whatever its power is.
func TestMostTaken(t *testing.T) {
	for _, power := range []int64{-1, 0, 1, 2, api.MaxDvTaken} {
		s := stateOf(64, manyWrites(400)...)
		s.Power, s.Taken = power, api.MaxDvTaken
		d := load(t, s)
		checkErrors(t, []api.Errno{d.Write(1, of(1))}, api.ErrPower)
		s.Off = true
		checkState(t, d, s)
		checkErrors(t, []api.Errno{d.Crash(nil), d.Write(1, of(1))}, api.OK, api.ErrPower)
		want := stateOf(64)
		want.Taken, want.Off = api.MaxDvTaken, true
		checkState(t, d, want)
	}
	s := stateOf(64)
	s.Taken = api.MaxDvTaken - 1
	d := load(t, s)
	checkErrors(t, []api.Errno{d.Write(1, of(1)), d.Flush(), d.Write(1, of(2)), d.Write(1, of(2))}, api.OK, api.OK, api.ErrPower, api.ErrPower)
	s.Stable[1], s.Taken, s.Off = of(1), api.MaxDvTaken, true
	checkState(t, d, s)
}

// TestFullCache: P6.2, the write after 400 of them makes those stable, but not one that the device does not take.
func TestFullCache(t *testing.T) {
	full := stateOf(64, manyWrites(400)...)
	d := load(t, full)
	checkState(t, d, full)
	checkErrors(t, []api.Errno{d.Write(1, of(77))}, api.OK)
	m := &model{copyOf(full)}
	m.keepAll()
	want := m.s
	want.Cache, want.Taken = []api.DvWrite{write(1, 77)}, 1
	checkState(t, d, want)
	checkErrors(t, []api.Errno{d.Crash(nil)}, api.OK)
	want.Cache = nil
	checkState(t, d, want)
	d = load(t, stateOf(64, manyWrites(399)...))
	checkErrors(t, []api.Errno{d.Write(49, of(143))}, api.OK)
	one := copyOf(full)
	one.Cache[399], one.Taken = write(49, 143), 1
	checkState(t, d, one)
	one.Power = 0
	d = load(t, one)
	checkErrors(t, []api.Errno{d.Write(2, of(1))}, api.ErrPower)
	one.Off = true
	checkState(t, d, one)
}

// TestDiff: P6.4, against what the sectors of both read as; also if a device is off.
func TestDiff(t *testing.T) {
	devices := []*device.Dev{fresh(t, 64), fresh(t, 65), fresh(t, 256)}
	for _, n := range []int{64, 65} {
		s := stateOf(n, write(0, 1), write(9, 2), write(0, 0), write(63, 3), write(9, 0), write(7, 1))
		s.Stable[5], s.Stable[7] = of(5), of(1)
		devices = append(devices, load(t, s))
		s.Off = true
		devices = append(devices, load(t, s))
		s.Cache = s.Cache[:4]
		devices = append(devices, load(t, s))
		s.Off, s.Taken, s.Power = false, 8, 9
		devices = append(devices, load(t, s))
		s.Cache = nil
		devices = append(devices, load(t, s))
	}
	for i, d := range devices {
		for k, o := range devices {
			a, b := d.Save(), o.Save()
			l, e := d.Diff(o)
			want, wantErr := diffOf(a, b)
			if !slices.Equal(l, want) || e != wantErr {
				t.Errorf("Diff of %d and %d is %v, %d, not %v, %d", i, k, l, e, want, wantErr)
			}
			if !same(d.Save(), a) || !same(o.Save(), b) {
				t.Errorf("Diff of %d and %d has changed one of them", i, k)
			}
		}
	}
}

// diffOf is what Diff returns for devices with these states.
func diffOf(a, b api.DvState) ([]int, api.Errno) {
	if len(a.Stable) != len(b.Stable) {
		return nil, api.ErrForm
	}
	var l []int
	for n := range a.Stable {
		if readsAs(a, n) != readsAs(b, n) {
			l = append(l, n)
		}
	}
	return l, api.OK
}

// TestDiffBytes: P6.4, a difference of a single byte at each place of each sector; all sectors different.
func TestDiffBytes(t *testing.T) {
	blank := fresh(t, 256)
	for n := range 256 {
		for _, at := range []int{0, 1, 63, 64, 126, 127, n % api.SectorBytes} {
			s := stateOf(256)
			s.Stable[n][at] = 1 << (at % 8)
			for range 2 {
				if l, e := load(t, s).Diff(blank); !slices.Equal(l, []int{n}) || e != api.OK {
					t.Fatalf("byte %d of sector %d: Diff is %v, %d", at, n, l, e)
				}
				s.Cache = append(s.Cache, api.DvWrite{At: n, Data: s.Stable[n]})
				s.Stable[n] = api.Sector{}
			}
		}
	}
	for at := range api.SectorBytes {
		s := stateOf(256)
		var all []int
		for n := range 256 {
			s.Stable[n][at] = 200
			all = append(all, n)
		}
		if l, e := blank.Diff(load(t, s)); !slices.Equal(l, all) || e != api.OK {
			t.Fatalf("byte %d of all sectors: Diff is %v, %d", at, l, e)
		}
	}
}

// TestIndependent: R6, calls of a device do not change another one.
func TestIndependent(t *testing.T) {
	a, b := fresh(t, 64), fresh(t, 64)
	checkErrors(t, []api.Errno{a.Write(1, of(1)), a.Flush(), a.Write(2, of(2)), a.Limit(0), a.Write(3, of(3))}, api.OK, api.OK, api.OK, api.OK, api.ErrPower)
	checkState(t, b, stateOf(64))
	if l, e := b.Diff(a); !slices.Equal(l, []int{1, 2}) || e != api.OK {
		t.Errorf("Diff is %v, %d", l, e)
	}
}
