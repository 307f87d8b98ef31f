package bits

import "limewash/api"

// And returns the map of the bits that are true in both maps.
func (m *Map) And(o *Map) (*Map, api.Errno) {
	return combine(m, o, func(a, b uint64) uint64 { return a & b })
}

// Or returns the map of the bits that are true in at least one of the maps.
func (m *Map) Or(o *Map) (*Map, api.Errno) {
	return combine(m, o, func(a, b uint64) uint64 { return a | b })
}

// Xor returns the map of the bits that are true in just one of the maps.
func (m *Map) Xor(o *Map) (*Map, api.Errno) {
	return combine(m, o, func(a, b uint64) uint64 { return a ^ b })
}

// Not returns the map of the bits that are false in m.
func (m *Map) Not() (*Map, api.Errno) {
	if !m.isMade() {
		return nil, api.ErrNil
	}
	r := blank(m.size)
	for i := range m.size {
		r.put(i, !m.bit(i))
	}
	return r, api.OK
}

// Same reports whether both maps have the same bits.
func (m *Map) Same(o *Map) bool {
	return m.isMade() && o.isMade() && m.size == o.size && m.words == o.words
}

// combine returns the map whose words are made by word from those of m and o; two words 0 must make 0, which is what follows the bits of a map.
func combine(m, o *Map, word func(a, b uint64) uint64) (*Map, api.Errno) {
	if !m.isMade() || !o.isMade() {
		return nil, api.ErrNil
	}
	if m.size != o.size {
		return nil, api.ErrArg
	}
	r := blank(m.size)
	for i := range r.words {
		r.words[i] = word(m.words[i], o.words[i])
	}
	return r, api.OK
}
