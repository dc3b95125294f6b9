// Package crc is layer 1: a cyclic redundancy check (CRC-32C) of bytes. See shared/doc/01-crc.md.
package crc

const halfBits = 4 // bits of half a byte

// multiples holds the powers below x^32 of four multiples of the divisor, as registers: the only power from x^32 on of the one at index i is x^(35-i). Adding it thus cancels the coefficient that is in bit i of half a byte.
var multiples = [halfBits]uint32{0x105EC76F, 0x20BD8EDE, 0x417B1DBC, 0x82F63B78}

// Step returns the register after r once the byte c has been taken in.
func Step(r uint32, c byte) uint32 {
	// A byte counts from x^39 down, as the lowest bits of a register do once it is multiplied by x^8: they are simply added.
	return divideHalf(divideHalf(r ^ uint32(c)))
}

// Sum returns the check of b.
func Sum(b []byte) uint32 {
	r := ^uint32(0)
	for _, c := range b {
		r = Step(r, c)
	}
	return ^r
}

// divideHalf returns the remainder of x^4 times the polynomial of r.
func divideHalf(r uint32) uint32 {
	rest := r >> halfBits
	for bit := range halfBits {
		rest ^= multiples[bit] * (r >> bit & 1) // a product, as a branch on bits of data is slow
	}
	return rest
}
