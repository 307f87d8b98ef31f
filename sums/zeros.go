package sums

import "limewash/api"

// matrix is a linear map of registers: column i is what it makes of the bit i.
type matrix [32]register

// Zeros goes on from the crc h with n bytes 0.
func Zeros(h uint32, n int) (uint32, api.Errno) {
	if n < 0 || n > api.MaxSmZeros {
		return 0, api.ErrRange
	}
	return zeroBytes(n).of(registerOf(h)).crc(), api.OK
}

// Combine returns the crc of bytes with the crc a, and after them n bytes with the crc b.
func Combine(a, b uint32, n int) (uint32, api.Errno) {
	if n < 0 || n > api.MaxSmZeros {
		return 0, api.ErrRange
	}
	// What a crc is inverted by at its ends is in both On(a, z) and On(0, z), and falls out: what stays of them is linear in a.
	return uint32(zeroBytes(n).of(register(a))) ^ b, api.OK
}

// zeroBytes returns what n bytes 0 do to a register, which is the nth power of what one does.
func zeroBytes(n int) matrix {
	power, square := identity(), zeroByte()
	for ; n > 0; n >>= 1 {
		if n&1 == 1 {
			power = square.after(power)
		}
		square = square.after(square)
	}
	return power
}

// identity returns the matrix that changes nothing.
func identity() matrix {
	var m matrix
	for i := range m {
		m[i] = 1 << i
	}
	return m
}

// zeroByte returns what one byte 0 does to a register.
func zeroByte() matrix {
	m := identity()
	for i := range m {
		m[i].next(0)
	}
	return m
}

// of returns what m makes of r.
func (m matrix) of(r register) register {
	var made register
	for i, column := range m {
		if r>>i&1 == 1 {
			made ^= column
		}
	}
	return made
}

// after returns what m makes of what o makes.
func (m matrix) after(o matrix) matrix {
	for i, column := range o {
		o[i] = m.of(column)
	}
	return o
}
