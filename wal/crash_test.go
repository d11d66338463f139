package wal

import (
	"bytes"
	"math/rand"
	"testing"

	"augur/api"
	"augur/disk"
	"augur/sum"
)

// call is a Commit or a Reset.
type call struct {
	reset   bool
	records [][]byte
}

func (c call) do(l *Log) api.Errno {
	if c.reset {
		return l.Reset(c.records...)
	}
	return l.Commit(c.records...)
}

// after returns the records after the call.
func (c call) after(before [][]byte) [][]byte {
	if c.reset {
		return c.records
	}
	return joined(before, c.records)
}

// crashes calls f with copies of a disk, one for each way in which power may
// fail and return: what is kept, which sector is torn, and where.
func crashes(d *disk.Disk, f func(*disk.Disk)) {
	one := func(keep uint64, torn, at int) {
		c := d.Copy()
		c.Crash(keep, torn, at)
		f(c)
	}
	const all = ^uint64(0)
	for _, keep := range []uint64{0, all, 0x5555555555555555, 0xaaaaaaaaaaaaaaaa} {
		one(keep, -1, 0)
	}
	for k := range 8 {
		one(1<<k, -1, 0)
		one(all&^(1<<k), -1, 0)
		for _, at := range []int{0, 1, 2, 4, 5, 8, 9, 12, 16, 17, 20, 24, 64, 100, d.Size() - 1} {
			one(0, k, at)
			one(all, k, at)
		}
	}
}

// cuts calls f with copies of a disk on which a call has been cut short, one for
// each write and flush of it, and with one on which it has not.
func cuts(t *testing.T, d *disk.Disk, do func(*disk.Disk) api.Errno, f func(*disk.Disk, api.Errno)) {
	t.Helper()
	for n := range 1000 {
		c := d.Copy()
		c.Cut(n)
		e := do(c)
		if e != api.OK && e != api.ErrDiskDead {
			t.Fatalf("cut after %d: error %d", n, e)
		}
		f(c, e)
		if e == api.OK {
			return
		}
	}
	t.Fatal("a call that writes forever")
}

// checkEither checks that Open finds one of two lists.
func checkEither(t *testing.T, what string, d *disk.Disk, a, b [][]byte) {
	t.Helper()
	if _, got := open(t, d); !same(got, a) && !same(got, b) {
		t.Fatalf("%s: %d records, neither the %d before nor the %d after", what, len(got), len(a), len(b))
	}
}

// checkCall checks a call on the log of a disk, crashed at every write and flush
// in many ways.
func checkCall(t *testing.T, what string, d *disk.Disk, c call) {
	t.Helper()
	_, before := open(t, d)
	after := c.after(before)
	do := func(d *disk.Disk) api.Errno {
		l, _ := open(t, quiet(d))
		l.disk = d
		return c.do(l)
	}
	cuts(t, d, do, func(cut *disk.Disk, e api.Errno) {
		t.Helper()
		least := before
		if e == api.OK {
			least = after
		}
		crashes(cut, func(crashed *disk.Disk) {
			t.Helper()
			checkEither(t, what, crashed, least, after)
		})
	})
}

// quiet returns a copy of a disk without a scheduled failure: Open is to find
// power there, whatever is scheduled for the call behind it.
func quiet(d *disk.Disk) *disk.Disk {
	c := d.Copy()
	c.Crash(^uint64(0), -1, 0)
	return c
}

// logOf returns a disk on which calls have been made.
func logOf(t *testing.T, sectors, size int, calls ...call) *disk.Disk {
	t.Helper()
	d := disk.New(sectors, size)
	l, _ := open(t, d)
	for _, c := range calls {
		checkErr(t, "a call", c.do(l), api.OK)
	}
	return d
}

func long(b byte, n int) []byte { return bytes.Repeat([]byte{b}, n) }

// P4.3: calls of all sizes, behind logs of all sizes.
func TestCrashes(t *testing.T) {
	befores := [][]call{
		nil,
		{{false, texts("a", "b")}},
		{{false, [][]byte{long('x', 128-frameHead)}}},
		{{false, [][]byte{long('x', 300)}}, {false, texts("y")}},
		{{false, [][]byte{long('x', 300)}}, {true, texts("z")}},
		{{false, texts("a")}, {true, texts("b")}, {true, [][]byte{long('c', 200)}}, {false, texts("d")}},
	}
	calls := [][][]byte{
		nil, {nil}, texts("q"), {long('q', 120)}, {long('q', 121)}, {long('q', 200), nil, long('r', 100)},
	}
	for _, b := range befores {
		d := logOf(t, 20, 128, b...)
		for _, records := range calls {
			checkCall(t, "Commit", d, call{false, records})
			checkCall(t, "Reset", d, call{true, records})
		}
	}
}

// P4.3: another crash during the Open that follows a crash, and during one that
// finds no log.
func TestCrashesDuringOpen(t *testing.T) {
	openIt := func(d *disk.Disk) api.Errno {
		_, _, e := Open(d)
		return e
	}
	d := logOf(t, 16, 128, call{false, texts("a")}, call{false, texts("b")})
	do := func(d *disk.Disk) api.Errno {
		l, _ := open(t, quiet(d))
		l.disk = d
		return l.Commit(long('c', 150))
	}
	before, after := texts("a", "b"), joined(texts("a", "b"), [][]byte{long('c', 150)})
	cuts(t, d, do, func(cut *disk.Disk, e api.Errno) {
		crashes(cut, func(crashed *disk.Disk) {
			cuts(t, crashed, openIt, func(opened *disk.Disk, e api.Errno) {
				opened.Crash(0, 0, 16)
				checkEither(t, "Open", opened, before, after)
			})
		})
	})
	others := []*disk.Disk{disk.New(16, 128), slotImage(extent{0, 18, 2}, 2), slotImage(extent{0, 18, 3}, 0), spoiltSlot()}
	for _, other := range others {
		cuts(t, other, openIt, func(opened *disk.Disk, e api.Errno) {
			crashes(opened, func(crashed *disk.Disk) {
				checkEither(t, "Open of no log", crashed, nil, nil)
			})
		})
	}
}

// spoiltSlot returns a disk without a log, which a wrong length alone tells from
// one with records: where a torn sector holds the right length, it is one.
func spoiltSlot() *disk.Disk {
	d := slotImage(extent{0, 18, 2}, 0)
	b, _ := d.Read(slotSector)
	b[0]++
	d.Write(slotSector, b)
	d.Flush()
	return d
}

// P4.3: what Open returned before a crash is what it returns behind it.
func TestOpenedIsKept(t *testing.T) {
	d := logOf(t, 16, 128, call{false, texts("a")})
	do := func(d *disk.Disk) api.Errno {
		l, _ := open(t, quiet(d))
		l.disk = d
		return l.Reset(long('c', 150), nil)
	}
	cuts(t, d, do, func(cut *disk.Disk, e api.Errno) {
		crashes(cut, func(crashed *disk.Disk) {
			_, first := open(t, crashed)
			crashed.Crash(0, -1, 0)
			checkLog(t, "the second Open", crashed, first)
		})
	})
}

// P4.3: records whose bytes are those of marks, slots and frames, at the begin of
// a sector and elsewhere.
func TestCrashesOfImages(t *testing.T) {
	const size = 128
	source := logOf(t, 16, size, call{false, texts("fake", "records")}, call{true, texts("more", "of", "them")})
	var images [][]byte
	for i := range source.Sectors() {
		b, _ := source.Read(i)
		images = append(images, b)
	}
	aligned := append([][]byte{long(0, size-2*frameHead)}, images[0])
	for _, b := range images[1:7] {
		aligned = append(aligned, long(0, size-2*frameHead), b)
	}
	for _, records := range [][][]byte{images[:7], aligned, {framesOf(texts("x", "y")), nil}} {
		d := logOf(t, 40, size, call{true, records[:1]})
		checkCall(t, "Commit of images", d, call{false, records})
		checkCall(t, "Reset to images", d, call{true, records})
		stale := logOf(t, 40, size, call{true, records}, call{true, nil}, call{true, nil})
		checkCall(t, "Commit over images", stale, call{false, texts("q", "r")})
		checkCall(t, "Reset over images", stale, call{true, texts("q", "r")})
	}
}

// twin returns bytes of the same length and the same checksum as b, which differ
// from byte i on: the polynomial itself leaves no remainder.
func twin(b []byte, i int) []byte {
	c := bytes.Clone(b)
	for k, x := range []byte{0x41, 0x06, 0x71, 0xdb, 0x01} {
		c[i+k] ^= x
	}
	return c
}

// P4.3: a record over the traces of another with the same checksum, of which a
// crash may leave any sectors: the checksum holds for the mixture too.
func TestCrashesOfTwins(t *testing.T) {
	first := long('t', 500)
	second := first
	for i := 10; i < 500; i += 60 {
		second = twin(second, i)
	}
	if sum.Crc(first) != sum.Crc(second) || bytes.Equal(first, second) {
		t.Fatal("these are no twins")
	}
	d := logOf(t, 30, 128, call{false, texts("kept")})
	l, _ := open(t, quiet(d))
	l.disk = d
	d.Cut(6)
	checkErr(t, "Commit without power", l.Commit(first), api.ErrDiskDead)
	d.Crash(^uint64(0), -1, 0)
	checkLog(t, "the first twin", d, texts("kept"))
	checkCall(t, "the second twin", d, call{false, [][]byte{second}})
	reset := logOf(t, 30, 128, call{true, [][]byte{first}}, call{true, nil})
	checkCall(t, "Reset to the second twin", reset, call{true, [][]byte{second}})
}

// P4.3, and what holds everywhere: a log goes on after a call that found no power,
// as if this call had not been.
func TestGoesOn(t *testing.T) {
	for _, failed := range []call{{false, texts("lost", "too")}, {true, texts("lost")}} {
		for _, next := range []call{{false, texts("next")}, {true, texts("next")}} {
			d := logOf(t, 16, 128, call{false, texts("a")}, call{false, texts("b")})
			lost, want := failed.after(texts("a", "b")), next.after(texts("a", "b"))
			cuts(t, d, func(d *disk.Disk) api.Errno {
				l, _ := open(t, quiet(d))
				l.disk = d
				return failed.do(l)
			}, func(cut *disk.Disk, e api.Errno) {
				if e != api.OK {
					checkGoesOn(t, cut, d, next, lost, want)
				}
			})
		}
	}
}

// checkGoesOn makes the call next on the log of d, moved to cut, where the call
// before it has failed.
func checkGoesOn(t *testing.T, cut, d *disk.Disk, next call, lost, want [][]byte) {
	t.Helper()
	crashes(cut, func(crashed *disk.Disk) {
		do := func(c *disk.Disk) api.Errno {
			l, _ := open(t, d)
			l.disk = c
			e := next.do(l)
			if e == api.OK && l.Count() != len(want) || e != api.OK && l.Count() != 2 {
				t.Fatalf("error %d, Count %d", e, l.Count())
			}
			return e
		}
		cuts(t, crashed, do, func(again *disk.Disk, e api.Errno) {
			for _, keep := range []uint64{0, 1, 2, 3, ^uint64(0)} {
				c := again.Copy()
				c.Crash(keep, 2, 30)
				if e == api.OK {
					checkLog(t, "the call behind", c, want)
				} else if _, got := open(t, c); !same(got, texts("a", "b")) && !same(got, lost) && !same(got, want) {
					t.Fatalf("%q", got)
				}
			}
		})
	})
}

// P4.3, P4.4: random lives, with crashes during calls and during Open.
func TestCrashesOfRandomLives(t *testing.T) {
	r := rand.New(rand.NewSource(6))
	for range 1500 {
		d := disk.New(16+r.Intn(40), 128+r.Intn(200))
		l, all := open(t, d)
		for range 10 {
			c := call{r.Intn(3) == 0, randomRecords(r, 5, 150)}
			d.Cut(r.Intn(8))
			e := c.do(l)
			next := c.after(all)
			if e == api.ErrFull {
				next = all
			}
			d.Crash(r.Uint64(), r.Intn(8)-2, r.Intn(300))
			if r.Intn(3) == 0 {
				d.Cut(r.Intn(3))
				Open(d)
				d.Crash(r.Uint64(), r.Intn(8)-2, r.Intn(300))
			}
			var got [][]byte
			l, got = open(t, d)
			if !same(got, next) && (e == api.OK || !same(got, all)) {
				t.Fatalf("error %d: %d records, of %d or %d", e, len(got), len(all), len(next))
			}
			all = got
		}
	}
}
