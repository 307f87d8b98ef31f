package frames_test

import (
	"math/rand"
	"strings"
	"testing"

	"limewash/api"
	"limewash/device"
	"limewash/frames"
)

// checkGet compares Get with what the chapter says of the sector that is read.
func checkGet(t *testing.T, d *device.Dev, at int) {
	t.Helper()
	var want api.FrFrame
	s, wantE := d.Read(at)
	if wantE == api.OK {
		want, wantE = opened(at, s)
	}
	if f, e := frames.Get(d, at); f != want || e != wantE {
		t.Fatalf("Get at %d is %v, %d, not %v, %d", at, f, e, want, wantE)
	}
}

// TestBlank: P7.7, P7.3, a sector of which nothing was written.
func TestBlank(t *testing.T) {
	for _, sectors := range []int{64, 65, 256} {
		d := fresh(t, sectors)
		for at := range api.MaxSectors {
			want := frames.ErrBlank
			if at >= sectors {
				want = api.ErrRange
			}
			if f, e := frames.Get(d, at); f != (api.FrFrame{}) || e != want {
				t.Errorf("Get at %d of %d is %v, %d", at, sectors, f, e)
			}
		}
	}
}

// TestPut: P7.3, a frame is put into its sector by one write, into no other one, and got from it.
func TestPut(t *testing.T) {
	d := fresh(t, api.MaxSectors)
	for at := range api.MaxSectors {
		f := api.FrFrame{Kind: 1 + at%255, Seq: uint32(at) << 20, Data: strings.Repeat("y", at%113)}
		want := d.Save()
		want.Cache = append(want.Cache, api.DvWrite{At: at, Data: sealed(at, f)})
		want.Taken++
		if e := frames.Put(d, at, f.Kind, f.Seq, f.Data); e != api.OK || !same(d.Save(), want) {
			t.Fatalf("Put of %v at %d is %d, or wrote otherwise", f, at, e)
		}
		if got, e := frames.Get(d, at); got != f || e != api.OK {
			t.Fatalf("Get at %d is %v, %d, not %v", at, got, e, f)
		}
		if !same(d.Save(), want) {
			t.Fatalf("Get at %d has changed the device", at)
		}
	}
	for at := range api.MaxSectors {
		checkGet(t, d, at)
	}
}

// TestPutErrors: P7.3, the errors of Seal come before those of the device, and nothing is written with them.
func TestPutErrors(t *testing.T) {
	d := fresh(t, 64)
	if e := frames.Put(d, 3, 2, 258, "ab"); e != api.OK {
		t.Fatalf("Put is %d", e)
	}
	off := fresh(t, 64)
	if e := off.Limit(0); e != api.OK {
		t.Fatalf("Limit is %d", e)
	}
	if e := frames.Put(off, 3, 2, 258, "ab"); e != api.ErrPower || off.On() {
		t.Fatalf("Put without power is %d, on: %v", e, off.On())
	}
	copied := *d
	long := strings.Repeat("a", 113)
	for _, of := range []struct {
		d                  *device.Dev
		good, beyond, last api.Errno
	}{
		{d, api.OK, api.ErrRange, api.OK},
		{off, api.ErrPower, api.ErrPower, api.ErrPower},
		{nil, api.ErrNil, api.ErrNil, api.ErrNil},
		{&device.Dev{}, api.ErrNil, api.ErrNil, api.ErrNil},
		{&copied, api.ErrNil, api.ErrNil, api.ErrNil},
	} {
		fails := func(at, kind int, data string, want api.Errno) {
			t.Helper()
			before := of.d.Save()
			if e := frames.Put(of.d, at, kind, 1, data); e != want || e != api.OK && !same(of.d.Save(), before) {
				t.Errorf("Put at %d of the kind %d is %d, not %d, or has changed the device", at, kind, e, want)
			}
		}
		for _, at := range noPlaces {
			fails(at, 1, "ab", api.ErrRange)
			fails(at, 1, long, api.ErrRange)
		}
		for _, kind := range noKinds {
			fails(3, kind, "ab", api.ErrRange)
			fails(64, kind, long, api.ErrRange)
		}
		fails(3, 1, long, api.ErrLong)
		fails(64, 1, long, api.ErrLong)
		fails(64, 1, "ab", of.beyond)
		fails(255, 1, "ab", of.beyond)
		fails(63, 1, "ab", of.last)
		fails(3, 1, "cd", of.good)
	}
}

// TestGetErrors: P7.3, the errors of the device come before those of Open.
func TestGetErrors(t *testing.T) {
	fails := func(d *device.Dev, at int, want api.Errno) {
		t.Helper()
		if f, e := frames.Get(d, at); f != (api.FrFrame{}) || e != want {
			t.Errorf("Get at %d is %v, %d, not %d", at, f, e, want)
		}
	}
	d := fresh(t, 64)
	if e := frames.Put(d, 3, 2, 258, "ab"); e != api.OK {
		t.Fatalf("Put is %d", e)
	}
	copied := *d
	for _, at := range append(noPlaces, 64, 100, 255) {
		fails(d, at, api.ErrRange)
		fails(nil, at, api.ErrNil)
		fails(&device.Dev{}, at, api.ErrNil)
	}
	fails(nil, 3, api.ErrNil)
	fails(&copied, 3, api.ErrNil)
	fails(d, 0, frames.ErrBlank)
	if e := d.Limit(0); e != api.OK {
		t.Fatalf("Limit is %d", e)
	}
	if f, e := frames.Get(d, 3); f.Data != "ab" || e != api.OK {
		t.Errorf("Get of a device that takes no writes is %v, %d", f, e)
	}
	if e := frames.Put(d, 4, 2, 258, "ab"); e != api.ErrPower {
		t.Errorf("Put without power is %d", e)
	}
	for _, at := range append(noPlaces, 0, 3, 63, 64, 255) {
		fails(d, at, api.ErrPower)
	}
}

// TestGetSectors: P7.3, P7.2, what Get says of sectors that were not put as frames.
func TestGetSectors(t *testing.T) {
	r := rand.New(rand.NewSource(73))
	d := fresh(t, 64)
	for range 2000 {
		f := api.FrFrame{Kind: 1 + r.Intn(255), Seq: r.Uint32(), Data: strings.Repeat("z", r.Intn(113))}
		at := r.Intn(64)
		s := sealed(r.Intn(2)*at+r.Intn(2), f)
		if r.Intn(3) == 0 {
			s[r.Intn(api.SectorBytes)]++
		}
		if r.Intn(2) == 0 {
			s = summed(s)
		}
		if e := d.Write(at, s); e != api.OK {
			t.Fatalf("Write is %d", e)
		}
		checkGet(t, d, at)
	}
}

// TestCopiedSector: P7.5, P7.3, a frame whose sector was written to another place is found, and the old one again after a crash.
func TestCopiedSector(t *testing.T) {
	d := fresh(t, 64)
	if e := frames.Put(d, 4, 1, 1, "old"); e != api.OK {
		t.Fatalf("Put is %d", e)
	}
	if e := d.Flush(); e != api.OK {
		t.Fatalf("Flush is %d", e)
	}
	before, e := frames.Get(d, 4)
	if e != api.OK {
		t.Fatalf("Get is %d", e)
	}
	if e := d.Write(4, sealed(3, api.FrFrame{Kind: 1, Seq: 1, Data: "new"})); e != api.OK {
		t.Fatalf("Write is %d", e)
	}
	if f, e := frames.Get(d, 4); f != (api.FrFrame{}) || e != frames.ErrPlace {
		t.Errorf("Get is %v, %d", f, e)
	}
	if e := d.Crash(nil); e != api.OK {
		t.Fatalf("Crash is %d", e)
	}
	if f, e := frames.Get(d, 4); f != before || f.Data != "old" || e != api.OK {
		t.Errorf("Get after a crash is %v, %d", f, e)
	}
}
