package records

import (
	"bytes"

	"limewash/api"
	"limewash/sums"
)

// crcBytes is how many bytes a crc has.
const crcBytes = 4

// endByte follows bytes that are filled up with bytes 0.
const endByte = 1

// Seal returns b, followed by its crc.
func Seal(b []byte) []byte {
	return appendNumber(bytes.Clone(b), uint64(sums.Crc(b)), crcBytes)
}

// Open returns the bytes that b is the sealed form of.
func Open(b []byte) ([]byte, api.Errno) {
	end := len(b) - crcBytes
	if end < 0 {
		return nil, api.ErrMore
	}
	if number(b[end:]) != uint64(sums.Crc(b[:end])) {
		return nil, api.ErrForm
	}
	return bytes.Clone(b[:end]), api.OK
}

// Pad returns b, filled up to n bytes.
func Pad(b []byte, n int) ([]byte, api.Errno) {
	if n < 1 || n > api.MaxRcBytes {
		return nil, api.ErrRange
	}
	if len(b) >= n {
		return nil, api.ErrLong
	}
	filled := make([]byte, n)
	filled[copy(filled, b)] = endByte
	return filled, api.OK
}

// Unpad returns the bytes that were filled up to b.
func Unpad(b []byte) ([]byte, api.Errno) {
	end := len(bytes.TrimRight(b, "\x00")) - 1
	if end < 0 || b[end] != endByte {
		return nil, api.ErrForm
	}
	return bytes.Clone(b[:end]), api.OK
}
