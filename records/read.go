package records

import (
	"slices"

	"limewash/api"
)

// maxGroups is how many groups of bits a number below 2^64 has at most, and maxTop the greatest value of the last one of these.
const (
	maxGroups = 10
	maxTop    = 1
)

// reader has what is still to be read.
type reader struct{ rest []byte }

// fixed reads a number of size bytes.
func (r *reader) fixed(size int) (api.RcValue, api.Errno) {
	b, e := r.take(size)
	return api.RcValue{Num: number(b)}, e
}

// grouped reads a number in groups of bits.
func (r *reader) grouped(_ int) (api.RcValue, api.Errno) {
	n, e := r.groups()
	return api.RcValue{Num: n}, e
}

// str reads a string of at most so many bytes.
func (r *reader) str(most int) (api.RcValue, api.Errno) {
	b, e := r.counted(most, 1)
	return api.RcValue{Str: string(b)}, e
}

// list reads a list of at most so many elements.
func (r *reader) list(most int) (v api.RcValue, e api.Errno) {
	b, e := r.counted(most, elementBytes)
	for element := range slices.Chunk(b, elementBytes) {
		v.List = append(v.List, uint32(number(element)))
	}
	return v, e
}

// counted reads how many items there are, at most so many, and takes the bytes of these, size for each.
func (r *reader) counted(most, size int) ([]byte, api.Errno) {
	n, e := r.groups()
	if e != api.OK {
		return nil, e
	}
	if n > uint64(most) {
		return nil, api.ErrLong
	}
	return r.take(int(n) * size)
}

// take takes n bytes.
func (r *reader) take(n int) ([]byte, api.Errno) {
	if n > len(r.rest) {
		return nil, api.ErrMore
	}
	b := r.rest[:n]
	r.rest = r.rest[n:]
	return b, api.OK
}

// groups reads a number in as few groups of bits as possible.
func (r *reader) groups() (uint64, api.Errno) {
	var n uint64
	for i := range maxGroups {
		if i == len(r.rest) {
			return 0, api.ErrMore
		}
		c := r.rest[i]
		n |= uint64(c%moreBit) << (groupBits * i)
		if c >= moreBit {
			continue
		}
		if i > 0 && c == 0 || i == maxGroups-1 && c > maxTop {
			break
		}
		r.rest = r.rest[i+1:]
		return n, api.OK
	}
	return 0, api.ErrForm
}

// number returns the number in the bytes b, the lowest one first.
func number(b []byte) uint64 {
	var n uint64
	for i, c := range b {
		n |= uint64(c) << (8 * i)
	}
	return n
}
