package wal

import (
	"augur/api"
	"augur/disk"
)

// pages reads and writes the sectors of a disk. From its first error on it does
// nothing, so that it needs to be asked for the error only once, at the end.
type pages struct {
	disk *disk.Disk
	err  api.Errno
}

// read returns the bytes of a sector, or as many zeros.
func (p *pages) read(i int) []byte {
	if p.err == api.OK {
		var b []byte
		if b, p.err = p.disk.Read(i); p.err == api.OK {
			return b
		}
	}
	return make([]byte, p.disk.Size())
}

// write writes b to a sector, and zeros behind it.
func (p *pages) write(i int, b []byte) {
	if p.err == api.OK {
		sector := make([]byte, p.disk.Size())
		copy(sector, b)
		p.err = p.disk.Write(i, sector)
	}
}

func (p *pages) flush() {
	if p.err == api.OK {
		p.err = p.disk.Flush()
	}
}
