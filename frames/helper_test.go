package frames_test

import (
	"encoding/binary"
	"hash/crc32"
	"math"
	"math/rand"
	"slices"
	"strings"
	"testing"

	"limewash/api"
	"limewash/device"
	"limewash/frames"
)

// noPlaces are integers that are no number of a frame's sector.
var noPlaces = []int{-1, -2, -256, 256, 257, 1 << 16, 1 << 31, 1 << 32, 1<<32 + 3, math.MaxInt, math.MinInt, math.MinInt + 3}

// noKinds are integers that are no kind of a frame.
var noKinds = []int{0, -1, -255, 256, 257, 1 << 16, 1<<32 + 1, math.MaxInt, math.MinInt, math.MinInt + 1}

// seqs are numbers whose bytes differ.
var seqs = []uint32{0, 1, 255, 256, 258, 0x01020304, 0xfffefdfc, 1 << 31, math.MaxUint32}

// someData are strings that fit into a frame, of each number of bytes.
func someData() []string {
	r := rand.New(rand.NewSource(7))
	l := []string{"ab", "\x00", "a\x00", "\xff\xfe", strings.Repeat("\x00", api.MaxFrame), strings.Repeat("\xff", api.MaxFrame)}
	for n := range api.MaxFrame + 1 {
		b := make([]byte, n)
		r.Read(b)
		l = append(l, string(b))
	}
	return l
}

// summed is s with the checksum of its first bytes.
func summed(s api.Sector) api.Sector {
	binary.LittleEndian.PutUint32(s[124:], crc32.ChecksumIEEE(s[:124]))
	return s
}

// sectorOf is the sector of a frame as the chapter's table has it, also for numbers that a frame may not have.
func sectorOf(at uint32, kind, many, zero byte, seq uint32, data string) api.Sector {
	s := api.Sector{76, kind, many, zero}
	binary.LittleEndian.PutUint32(s[4:], seq)
	copy(s[8:120], data)
	binary.LittleEndian.PutUint32(s[120:], at)
	return summed(s)
}

// sealed is the sector of a frame as the chapter's table has it.
func sealed(at int, f api.FrFrame) api.Sector {
	return sectorOf(uint32(at), byte(f.Kind), byte(len(f.Data)), 0, f.Seq, f.Data)
}

// opened is what the chapter says of Open, byte by byte.
func opened(at int, s api.Sector) (api.FrFrame, api.Errno) {
	many := int(s[2])
	switch {
	case at < 0 || at > 255:
		return api.FrFrame{}, api.ErrRange
	case s == api.Sector{}:
		return api.FrFrame{}, frames.ErrBlank
	case s != summed(s):
		return api.FrFrame{}, frames.ErrSum
	case s[0] != 76 || s[1] == 0 || many > 112 || s[3] != 0 || s[121] != 0 || s[122] != 0 || s[123] != 0:
		return api.FrFrame{}, api.ErrForm
	case slices.ContainsFunc(s[8+many:120], func(c byte) bool { return c != 0 }):
		return api.FrFrame{}, api.ErrForm
	case int(s[120]) != at:
		return api.FrFrame{}, frames.ErrPlace
	}
	return api.FrFrame{Kind: int(s[1]), Seq: binary.LittleEndian.Uint32(s[4:]), Data: string(s[8 : 8+many])}, api.OK
}

// checkOpen compares Open with what the chapter says of it, and a frame with the sector that it has.
func checkOpen(t *testing.T, at int, s api.Sector) {
	t.Helper()
	f, e := frames.Open(at, s)
	if want, wantE := opened(at, s); f != want || e != wantE {
		t.Fatalf("Open(%d, %v) is %v, %d, not %v, %d", at, s, f, e, want, wantE)
	}
	if e != api.OK {
		return
	}
	if again, e := frames.Seal(at, f.Kind, f.Seq, f.Data); again != s || e != api.OK {
		t.Fatalf("Seal of %v at %d is %v, %d, not %v", f, at, again, e, s)
	}
}

// checkFails is whether Open finds that s is wrong, and for this reason.
func checkFails(t *testing.T, at int, s api.Sector, want api.Errno) {
	t.Helper()
	if f, e := frames.Open(at, s); f != (api.FrFrame{}) || e != want {
		t.Fatalf("Open(%d, %v) is %v, %d, not the error %d", at, s, f, e, want)
	}
}

// fresh is a new device.
func fresh(t *testing.T, sectors int) *device.Dev {
	t.Helper()
	d, e := device.New(sectors)
	if e != api.OK {
		t.Fatalf("New(%d) is %d", sectors, e)
	}
	return d
}

// same is whether a and b are the same state.
func same(a, b api.DvState) bool {
	return slices.Equal(a.Stable, b.Stable) && slices.Equal(a.Cache, b.Cache) && a.Taken == b.Taken && a.Power == b.Power && a.Off == b.Off
}
