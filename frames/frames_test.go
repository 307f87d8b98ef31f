package frames_test

import (
	"math/rand"
	"strings"
	"testing"

	"limewash/api"
	"limewash/frames"
)

// TestExamples: the chapter's examples.
func TestExamples(t *testing.T) {
	s, e := frames.Seal(3, 2, 258, "ab")
	if e != api.OK || [12]byte(s[:12]) != [12]byte{76, 2, 2, 0, 2, 1, 0, 0, 97, 98, 0, 0} || [4]byte(s[120:124]) != [4]byte{3, 0, 0, 0} {
		t.Errorf("Seal is %v, %d", s, e)
	}
	if f, e := frames.Open(3, s); f != (api.FrFrame{Kind: 2, Seq: 258, Data: "ab"}) || e != api.OK {
		t.Errorf("Open is %v, %d", f, e)
	}
	checkFails(t, 4, s, frames.ErrPlace)
	checkFails(t, 3, api.Sector{}, frames.ErrBlank)
	if _, e := frames.Seal(3, 2, 258, strings.Repeat("a", 113)); e != api.ErrLong {
		t.Errorf("Seal of 113 bytes is %d", e)
	}
	if _, e := frames.Seal(3, 0, 258, "ab"); e != api.ErrRange {
		t.Errorf("Seal of the kind 0 is %d", e)
	}
}

// checkSeal compares Seal of a frame with the chapter's table, and Open with the frame.
func checkSeal(t *testing.T, at int, f api.FrFrame) {
	t.Helper()
	s, e := frames.Seal(at, f.Kind, f.Seq, f.Data)
	if s != sealed(at, f) || e != api.OK {
		t.Fatalf("Seal of %v at %d is %v, %d", f, at, s, e)
	}
	if again, e := frames.Open(at, s); again != f || e != api.OK {
		t.Fatalf("Open of Seal of %v at %d is %v, %d", f, at, again, e)
	}
}

// TestSeal: P7.1, P7.2, P7.4, for every place, kind and number of bytes.
func TestSeal(t *testing.T) {
	for at := range api.MaxSectors {
		checkSeal(t, at, api.FrFrame{Kind: 2, Seq: 258, Data: "ab"})
		checkSeal(t, at, api.FrFrame{Kind: 1 + at%255, Seq: uint32(at) << 24, Data: strings.Repeat("x", at%113)})
	}
	for kind := 1; kind <= api.MaxFrKind; kind++ {
		checkSeal(t, 255, api.FrFrame{Kind: kind, Seq: 1})
	}
	for _, seq := range seqs {
		checkSeal(t, 0, api.FrFrame{Kind: 255, Seq: seq, Data: "ab"})
	}
	for i, data := range someData() {
		checkSeal(t, i, api.FrFrame{Kind: 1, Seq: 9, Data: data})
	}
}

// TestSealErrors: P7.1, errors of numbers before those of lengths; P7.7.
func TestSealErrors(t *testing.T) {
	fails := func(at, kind int, data string, want api.Errno) {
		t.Helper()
		if s, e := frames.Seal(at, kind, 1, data); s != (api.Sector{}) || e != want {
			t.Errorf("Seal(%d, %d, 1, %d bytes) is %v, %d, not %d", at, kind, len(data), s, e, want)
		}
	}
	for _, long := range []int{113, 114, 128, 255, 256, 257, 1 << 16} {
		data := strings.Repeat("\x00", long)
		fails(0, 1, data, api.ErrLong)
		fails(255, 255, data, api.ErrLong)
		fails(256, 255, data, api.ErrRange)
		fails(255, 256, data, api.ErrRange)
	}
	for _, at := range noPlaces {
		fails(at, 1, "", api.ErrRange)
		fails(at, 0, "ab", api.ErrRange)
	}
	for _, kind := range noKinds {
		fails(0, kind, "", api.ErrRange)
		fails(255, kind, "ab", api.ErrRange)
	}
}

// TestOpenErrors: P7.2, which error comes first.
func TestOpenErrors(t *testing.T) {
	good := sealed(3, api.FrFrame{Kind: 2, Seq: 258, Data: "ab"})
	wrong := good
	wrong[9]++
	odd := summed(wrong)
	odd[0] = 77
	odd = summed(odd)
	for _, at := range noPlaces {
		for _, s := range []api.Sector{{}, good, wrong, odd} {
			checkFails(t, at, s, api.ErrRange)
		}
	}
	for at := range api.MaxSectors {
		checkFails(t, at, api.Sector{}, frames.ErrBlank)
		checkFails(t, at, wrong, frames.ErrSum)
		checkFails(t, at, odd, api.ErrForm)
		if at != 3 {
			checkFails(t, at, good, frames.ErrPlace)
		}
	}
	oddAndWrong := odd
	oddAndWrong[127] ^= 128
	checkFails(t, 3, oddAndWrong, frames.ErrSum)
	checkFails(t, 4, oddAndWrong, frames.ErrSum)
}

// TestNearlyBlank: P7.2, one bit alone is neither blank nor a frame.
func TestNearlyBlank(t *testing.T) {
	for bit := range 8 * api.SectorBytes {
		var s api.Sector
		s[bit/8] = 1 << (bit % 8)
		checkFails(t, 0, s, frames.ErrSum)
	}
	checkFails(t, 0, summed(api.Sector{}), api.ErrForm)
}

// TestForms: P7.2, P7.4, sectors with a right checksum of which any one byte is another one: what is no frame, and what is another one.
func TestForms(t *testing.T) {
	for _, data := range []string{"", "ab", "ab\x00", strings.Repeat("a", 111), strings.Repeat("a", 112)} {
		good := sealed(3, api.FrFrame{Kind: 2, Seq: 258, Data: data})
		for i := range 124 {
			for c := range 256 {
				s := good
				s[i] = byte(c)
				checkOpen(t, 3, summed(s))
				checkOpen(t, c, summed(s))
			}
		}
	}
}

// TestFormParts: P7.2, each part of a sector that no frame has.
func TestFormParts(t *testing.T) {
	long := strings.Repeat("a", 112)
	for _, at := range []int{0, 3, 255} {
		for _, s := range []api.Sector{
			sectorOf(3, 0, 2, 0, 258, "ab"),
			sectorOf(3, 2, 1, 0, 258, "ab"),
			sectorOf(3, 2, 0, 0, 258, "ab"),
			sectorOf(3, 2, 111, 0, 258, long),
			sectorOf(3, 2, 113, 0, 258, long),
			sectorOf(3, 2, 120, 0, 258, long),
			sectorOf(3, 2, 121, 0, 258, long),
			sectorOf(3, 2, 255, 0, 258, long),
			sectorOf(3, 2, 2, 1, 258, "ab"),
			sectorOf(3, 2, 2, 255, 258, "ab"),
			sectorOf(256, 2, 2, 0, 258, "ab"),
			sectorOf(1<<16+3, 2, 2, 0, 258, "ab"),
			sectorOf(1<<24+3, 2, 2, 0, 258, "ab"),
			sectorOf(1<<31, 2, 2, 0, 258, "ab"),
			sectorOf(1<<32-1, 2, 2, 0, 258, "ab"),
		} {
			checkFails(t, at, s, api.ErrForm)
		}
	}
}

// TestAnySector: P7.2, P7.4, P7.7, sectors of any bytes, with a right checksum and without one.
func TestAnySector(t *testing.T) {
	r := rand.New(rand.NewSource(71))
	for range 20000 {
		var s api.Sector
		r.Read(s[:r.Intn(api.SectorBytes+1)])
		checkOpen(t, r.Intn(256), s)
		checkOpen(t, int(s[120]), summed(s))
		s[0], s[3], s[121], s[122], s[123] = 76, 0, 0, 0, 0
		checkOpen(t, int(s[120]), summed(s))
		s[2] %= 113
		clear(s[8+s[2] : 120])
		checkOpen(t, int(s[120]), summed(s))
		checkOpen(t, r.Intn(256), summed(s))
	}
}

// TestPlaces: P7.5, for every place and every other one.
func TestPlaces(t *testing.T) {
	for at := range api.MaxSectors {
		s, e := frames.Seal(at, 1+at%9, 258, "ab")
		if e != api.OK {
			t.Fatalf("Seal at %d is %d", at, e)
		}
		for other := range api.MaxSectors {
			if other != at {
				checkFails(t, other, s, frames.ErrPlace)
			}
		}
	}
}

// turned is s with the bits of pattern turned from the bit number first on, in each byte from the lowest bit on.
func turned(s api.Sector, first int, pattern uint32) api.Sector {
	for i := range 32 {
		if bit := first + i; pattern>>i&1 == 1 && bit < 8*len(s) {
			s[bit/8] ^= 1 << (bit % 8)
		}
	}
	return s
}

// bursts are patterns of bits, the first of which is turned: all short ones, and some of each length.
func bursts() []uint32 {
	r := rand.New(rand.NewSource(72))
	var l []uint32
	for pattern := uint32(1); pattern < 64; pattern += 2 {
		l = append(l, pattern)
	}
	for length := 6; length <= 32; length++ {
		last := uint32(1) << (length - 1)
		l = append(l, 1|last, last|(last-1), 1|last|r.Uint32()&(last-1), 1|last|r.Uint32()&(last-1))
	}
	return l
}

// TestBursts: P7.6, at each bit, in sectors of frames of several lengths; P7.2, the error is that of the checksum.
func TestBursts(t *testing.T) {
	for _, f := range []api.FrFrame{{Kind: 1}, {Kind: 2, Seq: 258, Data: "ab"}, {Kind: 255, Seq: 1<<32 - 1, Data: strings.Repeat("\xff", 112)}} {
		s, e := frames.Seal(3, f.Kind, f.Seq, f.Data)
		if e != api.OK {
			t.Fatalf("Seal of %v is %d", f, e)
		}
		for _, pattern := range bursts() {
			for first := range 8 * api.SectorBytes {
				checkFails(t, 3, turned(s, first, pattern), frames.ErrSum)
			}
		}
	}
}

// TestBytes: P7.6 and the chapter's example of any other byte, also for Open at another place.
func TestBytes(t *testing.T) {
	good, e := frames.Seal(3, 2, 258, "ab")
	if e != api.OK {
		t.Fatalf("Seal is %d", e)
	}
	for i := range good {
		for change := 1; change < 256; change++ {
			s := good
			s[i] ^= byte(change)
			checkFails(t, 3, s, frames.ErrSum)
			checkFails(t, 3^change, s, frames.ErrSum)
		}
	}
}
