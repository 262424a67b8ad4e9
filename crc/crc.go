// Package crc is layer 1: sums of bytes: see shared/doc/01-crc.md.
package crc

import "belvedere/api"

// A byte goes in by halves: a table of what whole bytes do would be sixteen times as long.
const (
	bitsInByte = 8
	bitsAtOnce = 4
)

// turns holds what the register is turned by, when those four bits, its lowest, have been moved out of it one by one.
var turns = [1 << bitsAtOnce]uint32{
	0x00000000, 0x1db71064, 0x3b6e20c8, 0x26d930ac,
	0x76dc4190, 0x6b6b51f4, 0x4db26158, 0x5005713c,
	0xedb88320, 0xf00f9344, 0xd6d6a3e8, 0xcb61b38c,
	0x9b64c2b0, 0x86d3d2d4, 0xa00ae278, 0xbdbdf21c,
}

// A tail is a sum as bytes, the lowest first, as it stands behind what is sealed.
type tail [4]byte

// Sum is the sum of bytes.
func Sum(b []byte) uint32 { return More(0, b) }

// More is a sum with more bytes.
func More(sum uint32, b []byte) uint32 {
	// A sum is the register with all bits turned, so turned back it goes on where it stood; that of no bytes, 0, is all ones then.
	register := ^sum
	for _, x := range b {
		register = turn(register, x)
	}
	return ^register
}

// turn is the register with one byte more gone through it.
func turn(register uint32, x byte) uint32 {
	// Only whether a bit of the register and the byte's are the same counts: so all eight are held against each other at once.
	register ^= uint32(x)
	for range bitsInByte / bitsAtOnce {
		register = register>>bitsAtOnce ^ turns[register%(1<<bitsAtOnce)]
	}
	return register
}

// Seal is bytes with their sum behind.
func Seal(b []byte) []byte {
	t := tailOf(b)
	sealed := make([]byte, 0, len(b)+len(t))
	sealed = append(sealed, b...)
	return append(sealed, t[:]...)
}

// Open is what was sealed.
func Open(b []byte) ([]byte, error) {
	n := len(b) - len(tail{})
	if n < 0 {
		return nil, api.ErrEnd
	}
	if tail(b[n:]) != tailOf(b[:n]) {
		return nil, api.ErrSum
	}
	return append([]byte(nil), b[:n]...), nil
}

// tailOf is the tail that belongs behind bytes.
func tailOf(b []byte) tail {
	var t tail
	sum := Sum(b)
	for i := range len(t) {
		t[i] = byte(sum >> (bitsInByte * i))
	}
	return t
}
