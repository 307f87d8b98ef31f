package sums

import "limewash/api"

// halves is A and B of a mix that goes on.
type halves struct{ a, b uint64 }

// Mix returns the mix of b.
func Mix(b []byte) uint64 {
	m := halves{a: 1}
	goOn(m.next, b)
	return m.mix()
}

// MixOn goes on from the mix h with b.
func MixOn(h uint64, b []byte) (uint64, api.Errno) {
	m := halvesOf(h)
	if !m.isMix() {
		return 0, api.ErrForm
	}
	goOn(m.next, b)
	return m.mix(), api.OK
}

// Roll returns the mix of bytes without their first one, out, and with in at their end, if h is that of the n bytes.
func Roll(h uint64, n int, out, in byte) (uint64, api.Errno) {
	m := halvesOf(h)
	if !m.isMix() {
		return 0, api.ErrForm
	}
	if n < 1 || n > api.MaxSmZeros {
		return 0, api.ErrRange
	}
	// All that is taken away is less than SmPrime, which is added so that nothing goes below 0.
	m.a = (m.a + api.SmPrime - uint64(out) + uint64(in)) % api.SmPrime
	m.b = (m.b + api.SmPrime - uint64(n)*uint64(out) + m.a - 1) % api.SmPrime
	return m.mix(), api.OK
}

// halvesOf returns the halves of h.
func halvesOf(h uint64) halves {
	return halves{a: h & (1<<32 - 1), b: h >> 32}
}

// isMix reports whether both halves are those of a mix.
func (m halves) isMix() bool {
	return m.a < api.SmPrime && m.b < api.SmPrime
}

// mix returns the mix of all bytes up to here.
func (m halves) mix() uint64 {
	return m.b<<32 | m.a
}

// next goes on with the byte c.
func (m *halves) next(c byte) {
	m.a = (m.a + uint64(c)) % api.SmPrime
	m.b = (m.b + m.a) % api.SmPrime
}
