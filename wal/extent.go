package wal

import (
	"slices"

	"augur/disk"
)

// The sectors of a disk: the mark, which tells which of the two slots is live;
// the slots, each of which tells an extent; the two areas, in which extents lie.
//
// What the live slot tells, and the slot, are never written over. All that is
// new goes elsewhere and is flushed; only then does the mark change, in one byte
// alone, which no crash can tear. So no checksum has to tell whether it arrived.
const (
	markSector = 0
	slotSector = 1
	areaSector = 3
	pair       = 2 // the number of slots, and that of areas
)

// magic begins the mark. Its first byte isn't 0: see format.
const magic = "augur: a log, 1\n"

// extent is a place of records: the first bytes of an area.
type extent struct {
	area    int
	bytes   int // those of their frames
	records int
}

func other(i int) int {
	return pair - 1 - i
}

func areaSectors(d *disk.Disk) int {
	return (d.Sectors() - areaSector) / pair
}

// capacity returns the number of bytes of an area.
func capacity(d *disk.Disk) int {
	return areaSectors(d) * d.Size()
}

// sectorOf returns the sector with byte at of an area.
func sectorOf(d *disk.Disk, area, at int) int {
	return areaSector + area*areaSectors(d) + at/d.Size()
}

// with returns the extent of the records of x and more of them.
func (x extent) with(records [][]byte) extent {
	x.records += len(records)
	for _, r := range records {
		x.bytes += frameHead + len(r)
	}
	return x
}

// find returns the log on the disk and its records, or false if there is none.
func find(p *pages) (l *Log, records [][]byte, ok bool) {
	defer func() {
		if recover() != nil {
			l, records, ok = nil, nil, false
		}
	}()
	live := p.readMark()
	held := p.readSlot(live)
	r := reader{p.load(held)}
	for range held.records {
		records = append(records, r.frame())
	}
	r.end()
	return &Log{disk: p.disk, live: live, held: held}, records, true
}

// format makes the disk an empty log. It first destroys the mark: otherwise, if
// power fails, a slot that is written in part might count.
func format(p *pages) *Log {
	p.write(markSector, nil)
	p.flush()
	p.writeSlot(0, extent{})
	p.flush()
	p.writeMark(0)
	return &Log{disk: p.disk}
}

// readMark returns the live slot.
func (p *pages) readMark() int {
	r := reader{p.read(markSector)}
	need(string(r.take(len(magic))) == magic)
	live := int(r.take(1)[0])
	need(live < pair)
	return live
}

func (p *pages) writeMark(live int) {
	p.write(markSector, append([]byte(magic), byte(live)))
}

// reclaim sets the mark back if it doesn't tell slot live: a call that found no
// power may have changed it, and a slot that it tells must not be written.
func (p *pages) reclaim(live int) {
	if p.read(markSector)[len(magic)] != byte(live) {
		p.writeMark(live)
		p.flush()
	}
}

func (p *pages) readSlot(i int) extent {
	slot := reader{p.read(slotSector + i)}
	r := reader{slot.frame()}
	x := extent{area: r.number(), bytes: r.number(), records: r.number()}
	need(x.area < pair && x.bytes <= capacity(p.disk))
	return x
}

func (p *pages) writeSlot(i int, x extent) {
	var b []byte
	for _, n := range []int{x.area, x.bytes, x.records} {
		b = appendNumber(b, n)
	}
	p.write(slotSector+i, appendFrame(nil, b))
}

// load returns the bytes of x.
func (p *pages) load(x extent) []byte {
	var b []byte
	for i := sectorOf(p.disk, x.area, 0); len(b) < x.bytes; i++ {
		b = append(b, p.read(i)...)
	}
	return b[:x.bytes]
}

// extend writes b behind x. The sector in which x ends is written again: torn or
// not, it still begins with the bytes of x.
func (p *pages) extend(x extent, b []byte) {
	size := p.disk.Size()
	i := sectorOf(p.disk, x.area, x.bytes)
	if shared := x.bytes % size; shared > 0 {
		b = slices.Concat(p.read(i)[:shared], b)
	}
	for part := range slices.Chunk(b, size) {
		p.write(i, part)
		i++
	}
}
