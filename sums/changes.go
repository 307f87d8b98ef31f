package sums

import (
	"bytes"
	"slices"

	"limewash/api"
)

// patchBytes is how many bytes a crc is set by.
const patchBytes = 4

// Patch returns b with other four bytes from at on, so that the crc is want.
func Patch(b []byte, at int, want uint32) ([]byte, api.Errno) {
	if at < 0 || at > len(b)-patchBytes {
		return nil, api.ErrRange
	}
	r := registerOf(want)
	for _, c := range slices.Backward(b[at+patchBytes:]) {
		r.back(c)
	}
	for range patchBytes {
		r.back(0)
	}
	// From r on, four bytes 0 lead to want; so do the bytes that differ from 0 where the register differs from r.
	change := r ^ registerOf(Crc(b[:at]))
	patched := bytes.Clone(b)
	for i := range patchBytes {
		patched[at+i] = byte(change >> (8 * i))
	}
	return patched, api.OK
}

// Locate returns a byte of b, and its new value, with which the crc is want.
func Locate(b []byte, want uint32) (at int, value byte, e api.Errno) {
	if len(b) > api.MaxSmPatch {
		return 0, 0, api.ErrLong
	}
	if Crc(b) == want {
		return 0, 0, api.ErrTwice
	}
	e = api.ErrNone
	// A change of a byte changes the register, and the bytes after it carry the change on as bytes 0 do.
	change := register(Crc(b) ^ want)
	for i, c := range slices.Backward(b) {
		change.back(0)
		if change <= 255 {
			at, value, e = i, c^byte(change), api.OK
		}
	}
	return at, value, e
}
