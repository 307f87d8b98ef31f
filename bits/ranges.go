package bits

import "limewash/api"

// Fill makes all bits of the range from, n v.
func (m *Map) Fill(from, n int, v bool) api.Errno {
	if e := m.lookAt(from, n); e != api.OK {
		return e
	}
	for i := from; i < from+n; i++ {
		m.put(i, v)
	}
	return api.OK
}

// Count returns how many bits of the range from, n are true.
func (m *Map) Count(from, n int) (int, api.Errno) {
	if e := m.lookAt(from, n); e != api.OK {
		return 0, e
	}
	count := 0
	for i := from; i < from+n; i++ {
		if m.bit(i) {
			count++
		}
	}
	return count, api.OK
}

// Next returns the least i from from on whose bit is v.
func (m *Map) Next(from int, v bool) (int, api.Errno) {
	if e := m.lookAt(from, 0); e != api.OK {
		return 0, e
	}
	for i := from; i < m.size; i++ {
		if m.bit(i) == v {
			return i, api.OK
		}
	}
	return 0, api.ErrNone
}

// Last returns the greatest i below before whose bit is v.
func (m *Map) Last(before int, v bool) (int, api.Errno) {
	if e := m.lookAt(before, 0); e != api.OK {
		return 0, e
	}
	for i := before - 1; i >= 0; i-- {
		if m.bit(i) == v {
			return i, api.OK
		}
	}
	return 0, api.ErrNone
}

// Run returns the least i from from on so that all bits of the range i, n are there, and are v.
func (m *Map) Run(from, n int, v bool) (int, api.Errno) {
	if e := m.lookAt(from, 0); e != api.OK {
		return 0, e
	}
	if n < 1 {
		return 0, api.ErrArg
	}
	first := from
search:
	// first + n may be too large for an int.
	for first <= m.size-n {
		for i := first; i < first+n; i++ {
			if m.bit(i) != v {
				// No run begins before a bit that is in its way.
				first = i + 1
				continue search
			}
		}
		return first, api.OK
	}
	return 0, api.ErrNone
}
