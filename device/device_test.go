package device_test

import (
	"math/rand"
	"testing"

	"limewash/api"
	"limewash/device"
)

// checkRead compares what a sector reads as.
func checkRead(t *testing.T, d *device.Dev, n int, want api.Sector, wantErr api.Errno) {
	t.Helper()
	if s, e := d.Read(n); s != want || e != wantErr {
		t.Errorf("Read(%d) is %v, %d, not %v, %d", n, s, e, want, wantErr)
	}
}

// checkErrors compares the errors of calls, one after the other.
func checkErrors(t *testing.T, got []api.Errno, want ...api.Errno) {
	t.Helper()
	for i, e := range got {
		if e != want[i] {
			t.Errorf("call %d is %d, not %d", i, e, want[i])
		}
	}
}

// TestExamples: P6.1 to P6.4, the chapter's examples.
func TestExamples(t *testing.T) {
	d := fresh(t, 64)
	a, b := of(1), of(2)
	checkErrors(t, []api.Errno{d.Write(3, a), d.Write(3, b), d.Write(4, a)}, api.OK, api.OK, api.OK)
	checkRead(t, d, 3, b, api.OK)
	if n := d.Pending(); n != 3 {
		t.Errorf("Pending is %d", n)
	}
	checkErrors(t, []api.Errno{d.Crash([]int{0, 2})}, api.OK)
	checkRead(t, d, 3, a, api.OK)
	checkRead(t, d, 4, a, api.OK)
	checkErrors(t, []api.Errno{d.Write(5, a), d.Flush(), d.Write(5, b), d.Crash(nil)}, api.OK, api.OK, api.OK, api.OK)
	checkRead(t, d, 5, a, api.OK)
	checkErrors(t, []api.Errno{d.Limit(1), d.Write(6, a), d.Write(6, b)}, api.OK, api.OK, api.ErrPower)
	checkRead(t, d, 6, api.Sector{}, api.ErrPower)
	if d.On() {
		t.Error("On is true")
	}
	checkErrors(t, []api.Errno{d.Crash([]int{0})}, api.OK)
	checkRead(t, d, 6, a, api.OK)
	if n := d.Taken(); n != 6 {
		t.Errorf("Taken is %d", n)
	}
	_, e := device.New(63)
	checkErrors(t, []api.Errno{d.Crash([]int{0}), d.Write(64, a), e}, api.ErrRange, api.ErrRange, api.ErrRange)
}

// TestNew: P6.1 and P6.4, devices with every number of sectors.
func TestNew(t *testing.T) {
	for n := 64; n <= 256; n++ {
		checkState(t, fresh(t, n), stateOf(n))
	}
	sizes := []int{257, 300, 1 << 31, 1 << 32, 1<<32 + 64, 1<<62 + 64}
	for _, n := range far {
		if n != 256 {
			sizes = append(sizes, n)
		}
	}
	for n := range 64 {
		sizes = append(sizes, n)
	}
	for _, n := range sizes {
		if d, e := device.New(n); d != nil || e != api.ErrRange {
			t.Errorf("New(%d) is %v, %d", n, d, e)
		}
	}
}

// manyWrites are n writes of the first 50 sectors.
func manyWrites(n int) []api.DvWrite {
	l := make([]api.DvWrite, n)
	for i := range l {
		l[i] = write(i%50, byte(i))
	}
	return l
}

// TestLoad: P6.1, states that are those of devices, also at their limits.
func TestLoad(t *testing.T) {
	for i, s := range []api.DvState{
		stateOf(64), stateOf(256), stateOf(64, write(0, 1), write(63, 2)), stateOf(256, write(255, 9)),
		stateOf(70, manyWrites(399)...), stateOf(70, manyWrites(400)...),
		stateOf(64, write(7, 1), write(7, 2), write(7, 1), write(8, 3)),
	} {
		for n := range s.Stable {
			s.Stable[n] = of(byte(200 - n))
		}
		for _, taken := range []int64{0, 1, 7, 1 << 32, api.MaxDvTaken - 1, api.MaxDvTaken} {
			for _, power := range []int64{-1, 0, 1, 1 << 33, api.MaxDvTaken - 1, api.MaxDvTaken} {
				for _, off := range []bool{false, true} {
					s.Taken, s.Power, s.Off = taken, power, off
					d, e := device.Load(s)
					if e != api.OK {
						t.Fatalf("%d: Load of %s is %d", i, textOf(s), e)
					}
					checkState(t, d, s)
				}
			}
		}
	}
}

// wrongStates are states of which a number is not that of a device.
func wrongStates() []api.DvState {
	states := []api.DvState{{}, {Power: -1}, stateOf(1), stateOf(63), stateOf(257), stateOf(1000), stateOf(63, write(0, 1))}
	for _, n := range far {
		states = append(states, stateOf(256, api.DvWrite{At: n}), stateOf(64, write(0, 1), api.DvWrite{At: n}, write(1, 1)))
	}
	states = append(states, stateOf(64, api.DvWrite{At: 64}), stateOf(255, api.DvWrite{At: 255}))
	for _, n := range append([]int64{-1}, farCounts...) {
		s := stateOf(64)
		s.Taken = n
		states = append(states, s)
	}
	for _, n := range farCounts {
		s := stateOf(64)
		s.Power = n
		states = append(states, s)
	}
	return states
}

// TestLoadErrors: P6.1, states that are not those of devices; ErrRange comes before ErrLong.
func TestLoadErrors(t *testing.T) {
	for _, s := range wrongStates() {
		for _, more := range []int{0, 401} {
			s := copyOf(s)
			s.Cache = append(s.Cache, manyWrites(more)...)
			if d, e := device.Load(s); d != nil || e != api.ErrRange {
				t.Errorf("Load of %s is %v, %d", textOf(s), d, e)
			}
		}
	}
	for _, n := range []int{401, 402, 500, 5000} {
		if d, e := device.Load(stateOf(64, manyWrites(n)...)); d != nil || e != api.ErrLong {
			t.Errorf("Load with %d writes is %v, %d", n, d, e)
		}
		wrong := stateOf(64, append(manyWrites(n), write(64, 1))...)
		if d, e := device.Load(wrong); d != nil || e != api.ErrRange {
			t.Errorf("Load with %d writes and one of no sector is %v, %d", n, d, e)
		}
	}
}

// TestNotMade: R5, methods of devices that New or Load have not returned.
func TestNotMade(t *testing.T) {
	made := load(t, stateOf(64, write(1, 1)))
	copied := *made
	for i, d := range []*device.Dev{nil, {}, new(device.Dev), &copied} {
		if s, e := d.Read(1); s != (api.Sector{}) || e != api.ErrNil {
			t.Errorf("%d: Read is %v, %d", i, s, e)
		}
		checkErrors(t, []api.Errno{d.Write(1, of(2)), d.Write(-1, of(2)), d.Flush(), d.Limit(1), d.Limit(-2), d.Crash(nil), d.Crash([]int{5})},
			api.ErrNil, api.ErrNil, api.ErrNil, api.ErrNil, api.ErrNil, api.ErrNil, api.ErrNil)
		if _, e := d.Read(-1); e != api.ErrNil {
			t.Errorf("%d: Read(-1) is %d", i, e)
		}
		if !same(d.Save(), api.DvState{}) || d.Sectors() != 0 || d.Pending() != 0 || d.Taken() != 0 || d.On() {
			t.Errorf("%d: something is told of it", i)
		}
		for _, o := range []*device.Dev{nil, {}, &copied, made, d} {
			if l, e := d.Diff(o); len(l) != 0 || e != api.ErrNil {
				t.Errorf("%d: Diff is %v, %d", i, l, e)
			}
			if l, e := o.Diff(d); len(l) != 0 || e != api.ErrNil {
				t.Errorf("%d: Diff of it is %v, %d", i, l, e)
			}
		}
	}
	checkState(t, made, stateOf(64, write(1, 1)))
}

// TestMemory: P6.8 and R3, states and lists that are changed after a call change no device, and no device changes them.
func TestMemory(t *testing.T) {
	s := stateOf(64, write(1, 1), write(2, 2))
	s.Stable[5] = of(5)
	want := copyOf(s)
	d := load(t, s)
	other := load(t, s)
	s.Stable[5][0], s.Stable[6] = 9, of(9)
	s.Cache[0], s.Cache[1].Data[3] = write(7, 7), 9
	checkState(t, d, want)
	saved := d.Save()
	saved.Stable[5][0], saved.Stable[6] = 9, of(9)
	saved.Cache[0], saved.Cache[1].Data[3] = write(7, 7), 9
	_ = append(saved.Cache, write(8, 8))
	checkState(t, d, want)
	saved = d.Save()
	keep := []int{0, 1}
	checkErrors(t, []api.Errno{d.Write(3, of(3)), d.Crash(keep), d.Write(9, of(9)), d.Flush()}, api.OK, api.OK, api.OK, api.OK)
	if !same(saved, want) || keep[0] != 0 || keep[1] != 1 {
		t.Error("calls have changed a state that was saved, or the list of a crash")
	}
	checkState(t, other, want)
	a, b := load(t, want), load(t, want)
	checkErrors(t, []api.Errno{b.Flush(), b.Write(1, of(3)), b.Write(2, of(3))}, api.OK, api.OK, api.OK)
	first, _ := a.Diff(b)
	second, _ := a.Diff(b)
	first[0] = 60
	if second[0] != 1 {
		t.Error("results of Diff share memory")
	}
	checkState(t, a, want)
}

// TestRandom: P6.1 to P6.8, calls of a device and of its model; Load of Save goes on alike.
func TestRandom(t *testing.T) {
	for seed := range int64(60) {
		r := rand.New(rand.NewSource(seed))
		n := 64 + r.Intn(193)
		d, m := fresh(t, n), &model{stateOf(n)}
		for i := range 300 {
			step(t, r, d, m)
			if i%10 == 0 {
				checkState(t, d, m.s)
			}
			if r.Intn(15) == 0 {
				d = load(t, d.Save())
			}
		}
		checkState(t, d, m.s)
	}
}
