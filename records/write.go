package records

import "limewash/api"

const (
	groupBits = 7   // of a number of the kind v, in each byte
	moreBit   = 128 // is added where another group follows
)

// elementBytes is how many bytes an element of a list has.
const elementBytes = 4

// writer has what is written of a record.
type writer struct{ record []byte }

// fixed writes the number v in size bytes.
func (w *writer) fixed(v api.RcValue, size int) api.Errno {
	if v.Str != "" || len(v.List) > 0 {
		return api.ErrArg
	}
	if v.Num>>(8*size) != 0 {
		return api.ErrRange
	}
	w.record = appendNumber(w.record, v.Num, size)
	return api.OK
}

// grouped writes the number v in groups of bits.
func (w *writer) grouped(v api.RcValue, _ int) api.Errno {
	if v.Str != "" || len(v.List) > 0 {
		return api.ErrArg
	}
	w.groups(v.Num)
	return api.OK
}

// str writes the string v, which has at most so many bytes.
func (w *writer) str(v api.RcValue, most int) api.Errno {
	if v.Num != 0 || len(v.List) > 0 {
		return api.ErrArg
	}
	if len(v.Str) > most {
		return api.ErrLong
	}
	w.groups(uint64(len(v.Str)))
	w.record = append(w.record, v.Str...)
	return api.OK
}

// list writes the list v, which has at most so many elements.
func (w *writer) list(v api.RcValue, most int) api.Errno {
	if v.Num != 0 || v.Str != "" {
		return api.ErrArg
	}
	if len(v.List) > most {
		return api.ErrLong
	}
	w.groups(uint64(len(v.List)))
	for _, x := range v.List {
		w.record = appendNumber(w.record, uint64(x), elementBytes)
	}
	return api.OK
}

// groups writes n in groups of bits.
func (w *writer) groups(n uint64) {
	for n>>groupBits != 0 {
		w.record = append(w.record, byte(n)|moreBit)
		n >>= groupBits
	}
	w.record = append(w.record, byte(n))
}

// appendNumber appends n in size bytes, the lowest one first.
func appendNumber(b []byte, n uint64, size int) []byte {
	for range size {
		b = append(b, byte(n))
		n >>= 8
	}
	return b
}
