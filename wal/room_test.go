package wal

import (
	"math/rand"
	"testing"

	"augur/api"
	"augur/disk"
)

// counted returns what the document counts for records.
func counted(records [][]byte) int {
	n := 0
	for _, r := range records {
		n += len(r) + 16
	}
	return n
}

// P4.2: Room of empty logs: on new disks, after Open, after Reset.
func TestRoomOfEmpty(t *testing.T) {
	for sectors := 16; sectors < 300; sectors += 1 + sectors/20 {
		for _, size := range []int{128, 129, 200, 256, 1000, 4096} {
			d := disk.New(sectors, size)
			least := sectors*size/4 - 4*size
			l, _ := open(t, d)
			if l.Room() < least {
				t.Errorf("%d sectors of %d bytes: Room %d, least %d", sectors, size, l.Room(), least)
			}
			for range 3 {
				mustCommit(t, l, []byte("some"))
				mustReset(t, l)
				if m, _ := open(t, d); l.Room() < least || m.Room() < least {
					t.Errorf("%d sectors of %d bytes: Room %d after Reset, least %d", sectors, size, l.Room(), least)
				}
			}
		}
	}
}

// fill commits records of n bytes while Room promises that they fit, and then to
// the first that does not; it returns how many there are.
func fill(t *testing.T, l *Log, size, n int) int {
	t.Helper()
	record := make([]byte, n)
	for i := range 1 << 16 {
		room := l.Room()
		e := l.Commit(record)
		if e == api.ErrFull {
			if n+16+2*size <= room || l.Room() != room || l.Count() != i {
				t.Fatalf("ErrFull: %d bytes, Room %d, now %d, Count %d of %d", n, room, l.Room(), l.Count(), i)
			}
			return i
		}
		if e != api.OK || l.Room() < room-(n+16+2*size) {
			t.Fatalf("Commit %d of %d bytes: error %d, Room %d, now %d", i, n, e, room, l.Room())
		}
	}
	t.Fatal("a log that is never full")
	return 0
}

// P4.2: a log that is filled, by records of every length up to some sectors, has
// all of them, and a Reset makes room again.
func TestFill(t *testing.T) {
	for n := range 400 {
		d := disk.New(24, 128)
		l, _ := open(t, d)
		count := fill(t, l, 128, n)
		least := (24*128/4 - 4*128) / (n + 16 + 2*128)
		if _, records := open(t, d); len(records) != count || count < least {
			t.Fatalf("records of %d bytes: %d of %d, least %d", n, len(records), count, least)
		}
		mustCommit(t, l)
		mustReset(t, l)
		if again := fill(t, l, 128, n); again != count {
			t.Fatalf("records of %d bytes: %d, after Reset %d", n, count, again)
		}
	}
}

// P4.2: a log that is filled to its last byte.
func TestFillExactly(t *testing.T) {
	d := disk.New(16, 128)
	l, _ := open(t, d)
	mustCommit(t, l, []byte("a"))
	checkErr(t, "a byte too many", l.Commit(make([]byte, l.Room()-frameHead+1)), api.ErrFull)
	last := make([]byte, l.Room()-frameHead)
	mustCommit(t, l, last)
	if l.Room() != 0 {
		t.Errorf("Room of a full log: %d", l.Room())
	}
	checkErr(t, "an empty record in a full log", l.Commit(nil), api.ErrFull)
	mustCommit(t, l)
	checkLog(t, "a full log", d, [][]byte{[]byte("a"), last})
	mustReset(t, l, make([]byte, l.Room()-frameHead+l.held.bytes))
}

// P4.2: one Commit of as much as Room promises, and one Reset of as much as is
// promised for the disk; whatever the log holds.
func TestPromisedBytes(t *testing.T) {
	r := rand.New(rand.NewSource(4))
	for range 3000 {
		sectors, size := 16+r.Intn(60), 128+r.Intn(300)
		d := disk.New(sectors, size)
		l, _ := open(t, d)
		for range r.Intn(4) {
			l.Commit(randomRecords(r, 4, 300)...)
		}
		if r.Intn(2) == 0 {
			l.Reset(randomRecords(r, 4, 300)...)
		}
		room, reset := l.Room()-2*size, r.Intn(2) == 0
		if reset {
			room = sectors*size/4 - 6*size
		}
		if room < 0 {
			continue
		}
		records := exactly(r, room)
		if reset {
			mustReset(t, l, records...)
			checkLog(t, "Reset", d, records)
		} else {
			mustCommit(t, l, records...)
		}
	}
}

// exactly returns records that count as n bytes, or as 16 less at most.
func exactly(r *rand.Rand, n int) [][]byte {
	var all [][]byte
	one, left := r.Intn(2) == 0, n
	for left >= 16 {
		length := left - 16
		if !one {
			length = r.Intn(min(length, 60) + 1)
		}
		b := make([]byte, length)
		r.Read(b)
		all = append(all, b)
		left -= 16 + length
	}
	return all
}

// P4.2: random calls on random disks: none is refused that Room or the size of
// the disk promises, and none takes more than it may.
func TestRoomOfRandomCalls(t *testing.T) {
	r := rand.New(rand.NewSource(5))
	for range 200 {
		sectors, size := 16+r.Intn(100), 128+r.Intn(300)
		l, _ := open(t, disk.New(sectors, size))
		for range 60 {
			records := randomRecords(r, 6, 1+r.Intn(500))
			n, room := counted(records), l.Room()
			if r.Intn(7) == 0 {
				if e := l.Reset(records...); e != api.OK && (e != api.ErrFull || n <= sectors*size/4-6*size) {
					t.Fatalf("Reset of %d: error %d", n, e)
				}
				continue
			}
			e := l.Commit(records...)
			if e != api.OK && (e != api.ErrFull || n+2*size <= room) {
				t.Fatalf("Commit of %d, Room %d: error %d", n, room, e)
			}
			if l.Room() < room-n-2*size || e != api.OK && l.Room() != room {
				t.Fatalf("Commit of %d, Room %d: error %d, Room now %d", n, room, e, l.Room())
			}
		}
	}
}
