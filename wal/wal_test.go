package wal

import (
	"bytes"
	"math/rand"
	"slices"
	"strings"
	"testing"

	"augur/api"
	"augur/disk"
)

func texts(s ...string) [][]byte {
	var all [][]byte
	for _, v := range s {
		all = append(all, []byte(v))
	}
	return all
}

func same(a, b [][]byte) bool {
	return slices.EqualFunc(a, b, bytes.Equal)
}

func joined(a, b [][]byte) [][]byte {
	return slices.Concat(a, b)
}

func checkErr(t *testing.T, what string, got, want api.Errno) {
	t.Helper()
	if got != want {
		t.Errorf("%s: error %d, want %d", what, got, want)
	}
}

// open returns the log of a disk, which must have one.
func open(t *testing.T, d *disk.Disk) (*Log, [][]byte) {
	t.Helper()
	l, records, e := Open(d)
	if e != api.OK {
		t.Fatalf("Open: error %d", e)
	}
	if l.Count() != len(records) {
		t.Fatalf("Open: %d records, and Count %d", len(records), l.Count())
	}
	return l, records
}

// checkLog checks that Open finds records want.
func checkLog(t *testing.T, what string, d *disk.Disk, want [][]byte) {
	t.Helper()
	if _, got := open(t, d); !same(got, want) {
		t.Errorf("%s: Open: %.200q, want %.200q", what, got, want)
	}
}

// checkNoLog checks that Open returns the error, and nothing beside it.
func checkNoLog(t *testing.T, what string, d *disk.Disk, want api.Errno) {
	t.Helper()
	if l, records, e := Open(d); e != want || l != nil || records != nil {
		t.Errorf("%s: error %d, log %t, %d records, want error %d alone", what, e, l != nil, len(records), want)
	}
}

func mustCommit(t *testing.T, l *Log, records ...[]byte) {
	t.Helper()
	if e := l.Commit(records...); e != api.OK {
		t.Fatalf("Commit: error %d", e)
	}
}

func mustReset(t *testing.T, l *Log, records ...[]byte) {
	t.Helper()
	if e := l.Reset(records...); e != api.OK {
		t.Fatalf("Reset: error %d", e)
	}
}

func randomRecords(r *rand.Rand, count, length int) [][]byte {
	var all [][]byte
	for range r.Intn(count) {
		b := make([]byte, r.Intn(length))
		r.Read(b)
		all = append(all, b)
	}
	return all
}

// P4.1: which disks can hold a log.
func TestOpenSizes(t *testing.T) {
	for _, c := range []struct {
		sectors, size int
		want          api.Errno
	}{
		{15, 512, api.ErrForm}, {1, 4096, api.ErrForm}, {16, 127, api.ErrForm},
		{4096, 64, api.ErrForm}, {15, 127, api.ErrForm},
		{16, 128, api.OK}, {17, 129, api.OK}, {4096, 4096, api.OK},
	} {
		d := disk.New(c.sectors, c.size)
		if c.want != api.OK {
			checkNoLog(t, "a small disk", d, c.want)
		} else {
			checkLog(t, "a new disk", d, nil)
		}
	}
	checkNoLog(t, "no disk", nil, api.ErrForm)
}

// P4.1: the errors of Open, in their order; an Open that fails changes nothing.
func TestOpenErrors(t *testing.T) {
	small := disk.New(15, 512)
	small.Cut(0)
	small.Flush()
	checkNoLog(t, "a small disk without power", small, api.ErrForm)
	d := disk.New(16, 128)
	l, _ := open(t, d)
	mustCommit(t, l, texts("a", "b")...)
	d.Cut(0)
	d.Flush()
	checkNoLog(t, "a disk without power", d, api.ErrDiskDead)
	d.Crash(0, -1, 0)
	checkLog(t, "power has returned", d, texts("a", "b"))
	fresh := disk.New(16, 128)
	fresh.Cut(0)
	checkNoLog(t, "power fails at once", fresh, api.ErrDiskDead)
}

// P4.1: on other bytes than those of a log, the log is empty and works.
func TestOpenOtherBytes(t *testing.T) {
	r := rand.New(rand.NewSource(1))
	for i := range 60 {
		d := disk.New(16+r.Intn(9), 128+r.Intn(40))
		for s := range d.Sectors() {
			b := bytes.Repeat([]byte{byte(s * i)}, d.Size())
			if i%3 == 0 {
				r.Read(b)
			}
			d.Write(s, b)
		}
		l, records := open(t, d)
		if len(records) != 0 || l.Room() < d.Sectors()*d.Size()/4-4*d.Size() {
			t.Fatalf("disk %d: %d records, Room %d", i, len(records), l.Room())
		}
		mustCommit(t, l, texts("x", "")...)
		checkLog(t, "other bytes", d, texts("x", ""))
	}
}

// P4.1: a disk that a log has written, and that has been changed since, is not a
// log: every sector that counts, by every byte that counts in it.
func TestOpenSpoiled(t *testing.T) {
	whole := disk.New(16, 128)
	l, _ := open(t, whole)
	mustCommit(t, l, texts("first", strings.Repeat("long", 40))...)
	mustCommit(t, l, texts("second")...)
	counts := map[int]int{
		markSector:              len(magic) + 1,
		slotSector + l.live:     frameHead + 3*bytesOfNumber,
		areaSector:              128,
		areaSector + 1:          l.held.bytes - 128,
		slotSector + 1 - l.live: 0,
		areaSector + 2:          0,
	}
	for s, n := range counts {
		for i := range 128 {
			d := whole.Copy()
			b, _ := d.Read(s)
			b[i] ^= 0x80
			d.Write(s, b)
			if _, records := open(t, d); (len(records) == 0) != (i < n) {
				t.Errorf("byte %d of sector %d changed: %d records", i, s, len(records))
			}
		}
	}
}

// P4.1: what Open has made of other bytes is a log: the next Open finds it.
func TestOpenMakesLog(t *testing.T) {
	for _, d := range []*disk.Disk{disk.New(16, 128), slotImage(extent{0, 18, 3}, 0)} {
		l, _ := open(t, d)
		if m, records, ok := find(&pages{disk: d}); !ok || len(records) != 0 || *m != *l {
			t.Errorf("found %t, %d records", ok, len(records))
		}
	}
}

// slotImage returns a disk whose mark and slot 0 are those of a log that tells x.
func slotImage(x extent, live int) *disk.Disk {
	p := &pages{disk: disk.New(16, 128)}
	p.writeSlot(0, x)
	p.writeMark(live)
	p.extend(extent{}, framesOf(texts("a", "b")))
	p.flush()
	return p.disk
}

// P4.1: a slot whose checksum holds, but whose numbers do not.
func TestOpenWrongSlots(t *testing.T) {
	for _, c := range []struct {
		name string
		x    extent
		live int
		want int
	}{
		{"whole", extent{0, 18, 2}, 0, 2},
		{"one record less", extent{0, 18, 1}, 0, 0},
		{"one record more", extent{0, 18, 3}, 0, 0},
		{"a frame less", extent{0, 9, 1}, 0, 1},
		{"a byte less", extent{0, 17, 2}, 0, 0},
		{"a byte more", extent{0, 19, 2}, 0, 0},
		{"a byte more, and a record", extent{0, 19, 3}, 0, 0},
		{"no frames", extent{0, 0, 2}, 0, 0},
		{"the other area", extent{1, 18, 2}, 0, 0},
		{"no area", extent{2, 18, 2}, 0, 0},
		{"no area, no records", extent{2, 0, 0}, 0, 0},
		{"no area, off the disk", extent{3, 18, 2}, 0, 0},
		{"no area, far off the disk", extent{1<<32 - 1, 18, 2}, 0, 0},
		{"zeros behind, as an empty record", extent{0, 26, 3}, 0, 0},
		{"beyond the area", extent{0, 6*128 + 1, 2}, 0, 0},
		{"far beyond the disk", extent{0, 1<<32 - 1, 2}, 0, 0},
		{"as many records as fit a number", extent{0, 18, 1<<32 - 1}, 0, 0},
		{"the other slot", extent{0, 18, 2}, 1, 0},
		{"no slot", extent{0, 18, 2}, 2, 0},
		{"no slot, by far", extent{0, 18, 2}, 255, 0},
	} {
		d := slotImage(c.x, c.live)
		if l, records := open(t, d); len(records) != c.want || l.Room() > 6*128 {
			t.Errorf("%s: %.100q, Room %d", c.name, records, l.Room())
		} else {
			mustReset(t, l, []byte("r"))
			mustCommit(t, l, []byte("s"))
			checkLog(t, c.name, d, texts("r", "s"))
		}
	}
}

// P4.1: the document's examples of Commit, Reset and Count.
func TestExamples(t *testing.T) {
	d := disk.New(16, 128)
	l, _ := open(t, d)
	mustCommit(t, l, texts("abc", "", "d")...)
	if l.Count() != 3 {
		t.Errorf("Count after Commit: %d", l.Count())
	}
	checkLog(t, "Commit", d, texts("abc", "", "d"))
	mustReset(t, l, texts("z")...)
	if l.Count() != 1 {
		t.Errorf("Count after Reset: %d", l.Count())
	}
	mustCommit(t, l, texts("y")...)
	checkLog(t, "Reset and Commit", d, texts("z", "y"))
	mustReset(t, l)
	if l.Count() != 0 {
		t.Errorf("Count after Reset to none: %d", l.Count())
	}
	checkLog(t, "Reset to none", d, nil)
}

// P4.1: calls without records, and with empty ones only.
func TestNoBytes(t *testing.T) {
	d := disk.New(16, 128)
	l, _ := open(t, d)
	room := l.Room()
	mustCommit(t, l)
	if l.Count() != 0 || l.Room() < room-2*128 {
		t.Errorf("Commit of none: Count %d, Room %d of %d", l.Count(), l.Room(), room)
	}
	mustCommit(t, l, nil, []byte{}, nil)
	checkLog(t, "empty records", d, [][]byte{nil, nil, nil})
	mustCommit(t, l)
	checkLog(t, "and none", d, [][]byte{nil, nil, nil})
	mustReset(t, l, nil)
	checkLog(t, "Reset to an empty record", d, [][]byte{nil})
}

// P4.1: what a call that returned OK has made is durable, though nobody flushes.
func TestDurable(t *testing.T) {
	d := disk.New(40, 256)
	l, _ := open(t, d)
	steps := []struct {
		call    func(...[]byte) api.Errno
		records [][]byte
		want    [][]byte
	}{
		{l.Commit, texts("a"), texts("a")},
		{l.Commit, texts("b", "c"), texts("a", "b", "c")},
		{l.Reset, texts("d"), texts("d")},
		{l.Commit, texts(strings.Repeat("e", 700)), texts("d", strings.Repeat("e", 700))},
		{l.Reset, nil, nil},
		{l.Commit, texts("f"), texts("f")},
	}
	for i, s := range steps {
		checkErr(t, "step", s.call(s.records...), api.OK)
		d.Crash(0, -1, 0)
		if _, got := open(t, d); !same(got, s.want) {
			t.Errorf("after step %d: %q, want %q", i, got, s.want)
		}
	}
}

// P4.3: records that Open has returned are durable, though they lay on the disk
// without a flush; and so is the log that Open has made.
func TestOpenIsDurable(t *testing.T) {
	d := disk.New(20, 128)
	l, _ := open(t, d)
	mustCommit(t, l, texts("a", strings.Repeat("b", 300))...)
	image := disk.New(20, 128)
	for i := range d.Sectors() {
		b, _ := d.Read(i)
		image.Write(i, b)
	}
	_, want := open(t, image)
	if len(want) != 2 {
		t.Fatalf("the image of a log: %d records", len(want))
	}
	image.Crash(0, -1, 0)
	checkLog(t, "an image after a crash", image, want)
}

// P4.1: the errors of Commit and of Reset, in their order; none of them changes
// what another call tells.
func TestErrors(t *testing.T) {
	d := disk.New(16, 128)
	l, _ := open(t, d)
	mustCommit(t, l, texts("kept")...)
	room := l.Room()
	most, more := make([]byte, api.MaxRecord), make([]byte, api.MaxRecord+1)
	check := func(what string, want api.Errno, records ...[]byte) {
		t.Helper()
		checkErr(t, what+", Commit", l.Commit(records...), want)
		checkErr(t, what+", Reset", l.Reset(records...), want)
		if l.Count() != 1 || l.Room() != room {
			t.Errorf("%s: Count %d, Room %d of %d", what, l.Count(), l.Room(), room)
		}
	}
	check("too long", api.ErrRecord, more)
	check("too long, behind a short one", api.ErrRecord, []byte("a"), more)
	check("too long, behind one that has no space", api.ErrRecord, most, more)
	check("as long as may be", api.ErrFull, most)
	check("many that fill all memory", api.ErrFull, slices.Repeat([][]byte{most}, 1<<20)...)
	checkLog(t, "calls refused", d, texts("kept"))
	d.Cut(0)
	check("power fails", api.ErrDiskDead, []byte("a"))
	check("no power", api.ErrDiskDead, []byte("a"))
	check("no power, no records", api.ErrDiskDead)
	check("no power, too long", api.ErrRecord, more)
	check("no power, no space", api.ErrFull, most)
	d.Crash(0, -1, 0)
	checkLog(t, "power has returned", d, texts("kept"))
}

// P4.1: records of the greatest length, one byte below it, and beside others.
func TestLongestRecord(t *testing.T) {
	d := disk.New(4096, 4096)
	l, _ := open(t, d)
	r := rand.New(rand.NewSource(2))
	longest := make([]byte, api.MaxRecord)
	r.Read(longest)
	mustCommit(t, l, longest)
	mustCommit(t, l, []byte("short"), longest[1:])
	checkLog(t, "long records", d, [][]byte{longest, []byte("short"), longest[1:]})
	mustReset(t, l, longest, longest)
	checkLog(t, "long records, Reset", d, [][]byte{longest, longest})
}

// P4.1: an Open does not disturb a log that is open already.
func TestOpenBeside(t *testing.T) {
	d := disk.New(30, 128)
	l, _ := open(t, d)
	var want [][]byte
	for i := range 12 {
		b := bytes.Repeat([]byte{byte(i)}, i)
		mustCommit(t, l, b)
		want = append(want, b)
		if m, got := open(t, d); !same(got, want) || m.Room() != l.Room() || m.Count() != l.Count() {
			t.Fatalf("after Commit %d: %q, Room %d and %d", i, got, m.Room(), l.Room())
		}
	}
}

// P4.1, P4.4: random calls on random disks, against a list.
func TestAgainstList(t *testing.T) {
	r := rand.New(rand.NewSource(3))
	for range 150 {
		d := disk.New(16+r.Intn(80), 128+r.Intn(200))
		l, want := open(t, d)
		for range 80 {
			records := randomRecords(r, 5, 1+r.Intn(400))
			reset := r.Intn(6) == 0
			var e api.Errno
			if reset {
				e = l.Reset(records...)
			} else {
				e = l.Commit(records...)
			}
			if e == api.OK && reset {
				want = records
			} else if e == api.OK {
				want = joined(want, records)
			} else if e != api.ErrFull {
				t.Fatalf("error %d", e)
			}
			if l.Count() != len(want) {
				t.Fatalf("Count %d, want %d", l.Count(), len(want))
			}
			if r.Intn(4) == 0 {
				d.Crash(r.Uint64(), -1, 0)
			}
			room := l.Room()
			if r.Intn(4) == 0 {
				l, _ = open(t, d)
			}
			if _, got := open(t, d); !same(got, want) || l.Room() != room {
				t.Fatalf("%d records, want %d; Room %d, was %d", len(got), len(want), l.Room(), room)
			}
		}
	}
}

// What holds everywhere: records, the list of them and spare capacity stay as
// they were, and what happens to them later does not show.
func TestArguments(t *testing.T) {
	backing := []byte("abcdefgh")
	list := make([][]byte, 2, 4)
	list[0], list[1] = backing[:2], backing[2:4]
	d := disk.New(16, 128)
	l, _ := open(t, d)
	mustReset(t, l, list...)
	mustCommit(t, l, list...)
	if string(backing) != "abcdefgh" || list[:4][2] != nil || list[:4][3] != nil || len(list[0]) != 2 || cap(list[0]) != 8 {
		t.Errorf("arguments have been changed: %q, %q", backing, list[:4])
	}
	backing[0], list[1] = 'X', nil
	mustCommit(t, l, []byte("e"))
	checkLog(t, "arguments changed later", d, texts("ab", "cd", "ab", "cd", "e"))
}

// What holds everywhere: the records that Open returns are new memory, each.
func TestResults(t *testing.T) {
	d := disk.New(16, 128)
	l, _ := open(t, d)
	mustCommit(t, l, texts("ab", "cd", "", "ef")...)
	_, first := open(t, d)
	_, second := open(t, d)
	for i, b := range first {
		_ = append(b, long(0xff, 40)...)
		for j := range b {
			b[j] = '!'
		}
		first[i] = nil
		if !same(first[i+1:], texts("ab", "cd", "", "ef")[i+1:]) {
			t.Fatalf("record %d shares memory with a later one: %q", i, first)
		}
	}
	if !same(second, texts("ab", "cd", "", "ef")) {
		t.Errorf("two results share memory: %q", second)
	}
	checkLog(t, "results changed", d, texts("ab", "cd", "", "ef"))
}
