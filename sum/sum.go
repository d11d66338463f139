// Package sum: Sums of bytes: see doc/01-sum.md.
package sum

const (
	fnvStart  uint64 = 0xcbf29ce484222325
	fnvFactor uint64 = 0x100000001b3
)

// nibbleSums holds, for each four bits, what the polynomial edb88320 leaves of
// them: four bits at a time, since a table for whole bytes would be sixteen
// times as long.
var nibbleSums = [16]uint32{
	0x00000000, 0x1db71064, 0x3b6e20c8, 0x26d930ac,
	0x76dc4190, 0x6b6b51f4, 0x4db26158, 0x5005713c,
	0xedb88320, 0xf00f9344, 0xd6d6a3e8, 0xcb61b38c,
	0x9b64c2b0, 0x86d3d2d4, 0xa00ae278, 0xbdbdf21c,
}

// Crc returns the CRC-32 of the parts, one after another.
func Crc(parts ...[]byte) uint32 {
	// The complement is taken once, after the last part: how the bytes are
	// divided must not show.
	c := ^uint32(0)
	for _, part := range parts {
		c = addToCrc(c, part)
	}
	return ^c
}

func addToCrc(c uint32, part []byte) uint32 {
	for _, b := range part {
		c ^= uint32(b)
		c = c>>4 ^ nibbleSums[c&15]
		c = c>>4 ^ nibbleSums[c&15]
	}
	return c
}

// Print returns the FNV-1a hash of the parts, each with its length ahead of it.
func Print(parts ...string) uint64 {
	h := fnvStart
	for _, part := range parts {
		// Without the lengths, lists that differ only in where a part ends
		// would have the same fingerprint.
		h = addLength(h, uint32(len(part)))
		h = addText(h, part)
	}
	return h
}

func addLength(h uint64, n uint32) uint64 {
	for shift := 24; shift >= 0; shift -= 8 {
		h = addByte(h, byte(n>>shift))
	}
	return h
}

// addText goes through the bytes of s by index: a range over s would yield
// runes.
func addText(h uint64, s string) uint64 {
	for i := range len(s) {
		h = addByte(h, s[i])
	}
	return h
}

func addByte(h uint64, b byte) uint64 {
	return (h ^ uint64(b)) * fnvFactor
}
