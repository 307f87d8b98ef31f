package frames

import (
	"limewash/api"
	"limewash/sums"
)

// Where the parts of a frame are in its sector.
const (
	markFrom = 0
	kindFrom = 1
	manyFrom = 2
	zeroFrom = 3
	seqFrom  = 4
	dataFrom = 8
	atFrom   = dataFrom + api.MaxFrame
	sumFrom  = atFrom + 4
)

// number is how a number is written to its place in a sector, and read from it.
type number struct {
	write func(n uint32)
	read  func() uint32
}

// numbers are those of a frame, each at its place in one sector.
type numbers struct{ mark, kind, many, seq, at, sum number }

// numbersOf returns the numbers of s.
func numbersOf(s *api.Sector) numbers {
	return numbers{
		mark: numberIn(s[markFrom:kindFrom:kindFrom]),
		kind: numberIn(s[kindFrom:manyFrom:manyFrom]),
		many: numberIn(s[manyFrom:zeroFrom:zeroFrom]),
		seq:  numberIn(s[seqFrom:dataFrom:dataFrom]),
		at:   numberIn(s[atFrom:sumFrom:sumFrom]),
		sum:  numberIn(s[sumFrom:api.SectorBytes:api.SectorBytes]),
	}
}

// numberIn returns the number with the bytes b, the lowest one first.
func numberIn(b []byte) number {
	return number{
		write: func(n uint32) {
			for i := range b {
				b[i] = byte(n >> (8 * i))
			}
		},
		read: func() uint32 {
			var n uint32
			for i, c := range b {
				n |= uint32(c) << (8 * i)
			}
			return n
		},
	}
}

// dataOf returns the first many bytes of the place of Data, of which there are at most api.MaxFrame.
func dataOf(s *api.Sector, many uint32) []byte {
	return s[dataFrom : dataFrom+many : atFrom]
}

// sumOf returns the checksum that s must have.
func sumOf(s *api.Sector) uint32 {
	return sums.Crc(s[:sumFrom:sumFrom])
}

// frameOf returns the frame in s and the number of its sector.
func frameOf(s api.Sector) (f api.FrFrame, at int, e api.Errno) {
	n := numbersOf(&s)
	many := n.many.read()
	if many > api.MaxFrame {
		return api.FrFrame{}, 0, api.ErrForm
	}
	f = api.FrFrame{Kind: int(n.kind.read()), Seq: n.seq.read(), Data: string(dataOf(&s, many))}
	at = int(n.at.read())
	// A frame has just one sector at a place: what else s must have, such as 0 after Data, needs no checks of its own.
	if again, e := Seal(at, f.Kind, f.Seq, f.Data); e != api.OK || again != s {
		return api.FrFrame{}, 0, api.ErrForm
	}
	return f, at, api.OK
}
