package wal

import (
	"bytes"

	"augur/sum"
)

// A frame is the length of some bytes, a checksum, and the bytes. The checksum
// tells a log from bytes that happen to look like one; what is complete is told
// by the mark.
const (
	bytesOfNumber = 4
	bitsOfByte    = 8
	frameHead     = 2 * bytesOfNumber
)

// incomplete is what a reader panics with at bytes that no log has written: they
// may lie anywhere in a frame, and end the whole reading.
type incomplete struct{}

// need panics unless ok holds.
func need(ok bool) {
	if !ok {
		panic(incomplete{})
	}
}

func framesOf(records [][]byte) []byte {
	var b []byte
	for _, r := range records {
		b = appendFrame(b, r)
	}
	return b
}

func appendFrame(b, record []byte) []byte {
	length := appendNumber(nil, len(record))
	b = append(b, length...)
	b = appendNumber(b, checksum(length, record))
	return append(b, record...)
}

// checksum takes the length in too: otherwise, zeros would be the frame of an
// empty record.
func checksum(length, record []byte) int {
	return int(sum.Crc(length, record))
}

func appendNumber(b []byte, n int) []byte {
	for i := range bytesOfNumber {
		b = append(b, byte(n>>(i*bitsOfByte)))
	}
	return b
}

// reader reads what the functions above have appended.
type reader struct {
	rest []byte
}

func (r *reader) take(n int) []byte {
	need(n <= len(r.rest))
	b := r.rest[:n]
	r.rest = r.rest[n:]
	return b
}

func (r *reader) number() int {
	return numberOf(r.take(bytesOfNumber))
}

func numberOf(b []byte) int {
	n := 0
	for i := range bytesOfNumber {
		n |= int(b[i]) << (i * bitsOfByte)
	}
	return n
}

// frame returns the bytes of a frame, in memory of their own.
func (r *reader) frame() []byte {
	length := r.take(bytesOfNumber)
	check := r.number()
	record := r.take(numberOf(length))
	need(check == checksum(length, record))
	return bytes.Clone(record)
}

// end panics if bytes are left.
func (r *reader) end() {
	need(len(r.rest) == 0)
}
