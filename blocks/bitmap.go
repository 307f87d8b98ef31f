package blocks

import "limewash/api"

const byteBits = 8

// bitmap has a bit for each block, and more.
type bitmap [api.Room]byte

// Encode returns the bitmap of s.
func Encode(s api.BkState) ([]byte, api.Errno) {
	if e := Check(s); e != api.OK {
		return nil, e
	}
	var m bitmap
	for block, used := range s.Used {
		if used {
			m.set(block)
		}
	}
	return m[:], api.OK
}

// Decode returns the state with the bitmap b.
func Decode(l api.BkLayout, b []byte) (api.BkState, api.Errno) {
	s, e := New(l)
	if e != api.OK {
		return api.BkState{}, e
	}
	if len(b) != api.Room {
		return api.BkState{}, api.ErrLong
	}
	m := bitmap(b)
	for i := range len(m) * byteBits {
		if !m.has(i) {
			continue
		}
		if i >= len(s.Used) {
			return api.BkState{}, api.ErrForm
		}
		s.Used[i] = true
	}
	return s, api.OK
}

// set makes the bit i 1.
func (m *bitmap) set(i int) {
	m[i/byteBits] |= 1 << (i % byteBits)
}

// has is whether the bit i is 1.
func (m *bitmap) has(i int) bool {
	return m[i/byteBits]>>(i%byteBits)&1 == 1
}
