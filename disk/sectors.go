package disk

import (
	"bytes"
	"maps"
	"slices"
)

// keepBits is the number of bits of the argument keep of Crash.
const keepBits = 64

// sectors holds the bytes of a disk. A slice that stands here is replaced, but
// its bytes are never changed: so a new disk needs only one sector of zeros, and
// a copy of a disk no bytes of its own.
type sectors struct {
	size    int
	durable [][]byte
	written map[int][]byte // by sector: what is not durable yet
}

func newSectors(n, size int) sectors {
	zeros := make([]byte, size)
	return sectors{
		size:    size,
		durable: slices.Repeat([][]byte{zeros}, n),
		written: map[int][]byte{},
	}
}

// Sectors returns the number of sectors.
func (s *sectors) Sectors() int {
	return len(s.durable)
}

// Size returns the number of bytes of a sector.
func (s *sectors) Size() int {
	return s.size
}

func (s *sectors) has(i int) bool {
	return 0 <= i && i < len(s.durable)
}

// last returns a copy of what was written last to sector i.
func (s *sectors) last(i int) []byte {
	if b, ok := s.written[i]; ok {
		return bytes.Clone(b)
	}
	return bytes.Clone(s.durable[i])
}

func (s *sectors) replace(i int, b []byte) {
	s.written[i] = bytes.Clone(b)
}

// settle makes durable what was written.
func (s *sectors) settle() {
	for i, b := range s.written {
		s.durable[i] = b
	}
	s.forget()
}

// lose makes durable what a loss of power leaves of what was written.
func (s *sectors) lose(keep uint64, torn, at int) {
	for k, i := range slices.Sorted(maps.Keys(s.written)) {
		if k == torn {
			s.durable[i] = s.tear(i, at)
		} else if keep>>(k%keepBits)&1 == 1 {
			s.durable[i] = s.written[i]
		}
	}
	s.forget()
}

// tear returns the bytes of sector i if only the first at of them were written
// before the power failed.
func (s *sectors) tear(i, at int) []byte {
	at = min(max(at, 0), s.size)
	return slices.Concat(s.written[i][:at], s.durable[i][at:])
}

// forget takes a new map: the old one, emptied, would be gone through in all the
// length that it ever had.
func (s *sectors) forget() {
	s.written = map[int][]byte{}
}

func (s *sectors) clone() sectors {
	return sectors{
		size:    s.size,
		durable: slices.Clone(s.durable),
		written: maps.Clone(s.written),
	}
}
