// Package crc tells sums of bytes, and seals bytes with them: see ../shared/doc/01-crc.md.
package crc

import (
	"bytes"

	"leasehold/api"
)

// tailSize is how many bytes Seal puts behind.
const tailSize = 4

// steps holds what four bits do to a sum. Half a byte at a time keeps the table small enough to stand as a literal.
var steps = [16]uint32{
	0x00000000, 0x1db71064, 0x3b6e20c8, 0x26d930ac,
	0x76dc4190, 0x6b6b51f4, 0x4db26158, 0x5005713c,
	0xedb88320, 0xf00f9344, 0xd6d6a3e8, 0xcb61b38c,
	0x9b64c2b0, 0x86d3d2d4, 0xa00ae278, 0xbdbdf21c,
}

// Sum is the CRC-32 of all parts, one behind the other.
func Sum(parts ...[]byte) uint32 {
	var s uint32
	for _, p := range parts {
		s = More(s, p)
	}
	return s
}

// More is the sum of a text whose sum is s, with b behind.
func More(s uint32, b []byte) uint32 {
	// A sum has all bits turned at its end: turned back, it is where the text left off.
	r := ^s
	for _, x := range b {
		r ^= uint32(x)
		r = steps[r&15] ^ r>>4
		r = steps[r&15] ^ r>>4
	}
	return ^r
}

// Seal is b with the sum of seed and b behind.
func Seal(b []byte, seed uint32) []byte {
	sealed := make([]byte, 0, len(b)+tailSize)
	sealed = append(sealed, b...)
	return append(sealed, tail(b, seed)...)
}

// Open is what was sealed with seed, when the sum behind it fits.
func Open(b []byte, seed uint32) ([]byte, error) {
	if len(b) < tailSize {
		return nil, api.ErrEnd
	}
	n := len(b) - tailSize
	if !bytes.Equal(b[n:], tail(b[:n], seed)) {
		return nil, api.ErrSum
	}
	return bytes.Clone(b[:n]), nil
}

// tail is what Seal puts behind b.
func tail(b []byte, seed uint32) []byte {
	return lowestFirst(Sum(lowestFirst(seed), b))
}

// lowestFirst is n in four bytes.
func lowestFirst(n uint32) []byte {
	return []byte{byte(n), byte(n >> 8), byte(n >> 16), byte(n >> 24)}
}
