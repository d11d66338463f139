package disk

import (
	"bytes"
	"math"
	"math/rand"
	"testing"

	"augur/api"
)

// sector returns 64 bytes x.
func sector(x byte) []byte { return bytes.Repeat([]byte{x}, 64) }

// half returns a sector whose first at bytes are x, and whose others are y.
func half(x byte, at int, y byte) []byte {
	return append(bytes.Repeat([]byte{x}, at), bytes.Repeat([]byte{y}, 64-at)...)
}

func checkErr(t *testing.T, what string, got, want api.Errno) {
	t.Helper()
	if got != want {
		t.Errorf("%s: error %d, want %d", what, got, want)
	}
}

// checkSector checks that Read of sector i returns want.
func checkSector(t *testing.T, what string, d *Disk, i int, want []byte) {
	t.Helper()
	if got, e := d.Read(i); e != api.OK || !bytes.Equal(got, want) {
		t.Errorf("%s: sector %d: error %d, % x, want % x", what, i, e, got, want)
	}
}

// checkNotRead checks that Read of sector i returns the error, and no bytes.
func checkNotRead(t *testing.T, what string, d *Disk, i int, want api.Errno) {
	t.Helper()
	if got, e := d.Read(i); e != want || got != nil {
		t.Errorf("%s: Read of %d: error %d, %d bytes, want error %d and none", what, i, e, len(got), want)
	}
}

func checkDead(t *testing.T, what string, d *Disk, want bool) {
	t.Helper()
	if got := d.Dead(); got != want {
		t.Errorf("%s: Dead is %t, want %t", what, got, want)
	}
}

// write writes sectors that must be accepted.
func write(t *testing.T, d *Disk, x byte, sectors ...int) {
	t.Helper()
	for _, i := range sectors {
		if e := d.Write(i, sector(x)); e != api.OK {
			t.Fatalf("Write of sector %d: error %d", i, e)
		}
	}
}

// stable returns a disk of n sectors of 64 durable bytes x.
func stable(t *testing.T, n int, x byte) *Disk {
	t.Helper()
	d := New(n, 64)
	for i := range n {
		write(t, d, x, i)
	}
	checkErr(t, "Flush", d.Flush(), api.OK)
	return d
}

// kill returns a disk as stable does, on which sector 0 has been written with
// y and which is dead now.
func kill(t *testing.T, n int, x, y byte) *Disk {
	t.Helper()
	d := stable(t, n, x)
	write(t, d, y, 0)
	d.Cut(0)
	checkErr(t, "Write after Cut(0)", d.Write(n-1, sector(y)), api.ErrDiskDead)
	return d
}

// P3.1: how many sectors, of how many bytes, a new disk has: all of them 0.
func TestNew(t *testing.T) {
	cases := []struct{ n, size, sectors, bytes int }{
		{0, 0, 1, 64},
		{4097, 4097, 4096, 4096},
		{-1, -1, 1, 64},
		{1, 64, 1, 64},
		{1, 63, 1, 64},
		{2, 65, 2, 65},
		{3, 100, 3, 100},
		{4095, 64, 4095, 64},
		{4096, 64, 4096, 64},
		{1, 4095, 1, 4095},
		{2, 4096, 2, 4096},
		{math.MinInt, math.MinInt, 1, 64},
		{math.MaxInt, math.MaxInt, 4096, 4096},
		{math.MinInt, math.MaxInt, 1, 4096},
		{math.MaxInt, math.MinInt, 4096, 64},
	}
	for _, c := range cases {
		d := New(c.n, c.size)
		if d.Sectors() != c.sectors || d.Size() != c.bytes {
			t.Errorf("New(%d, %d): %d sectors of %d bytes, want %d of %d", c.n, c.size, d.Sectors(), d.Size(), c.sectors, c.bytes)
		}
		checkDead(t, "New", d, false)
		zeros := make([]byte, c.bytes)
		for i := range c.sectors {
			if got, e := d.Read(i); e != api.OK || !bytes.Equal(got, zeros) {
				t.Fatalf("New(%d, %d): sector %d: error %d, or not %d zeros", c.n, c.size, i, e, c.bytes)
			}
		}
		checkNotRead(t, "behind the last", d, c.sectors, api.ErrDiskPlace)
	}
}

// P3.1: each sector holds what was written to it last, the first and the last
// one too, and no other sector changes.
func TestWriteRead(t *testing.T) {
	d := New(4, 64)
	write(t, d, 1, 0)
	write(t, d, 2, 3)
	write(t, d, 3, 1)
	write(t, d, 4, 1)
	for i, x := range []byte{1, 4, 0, 2} {
		checkSector(t, "written", d, i, sector(x))
	}
	checkErr(t, "Flush", d.Flush(), api.OK)
	for i, x := range []byte{1, 4, 0, 2} {
		checkSector(t, "flushed", d, i, sector(x))
	}
	write(t, d, 5, 3)
	write(t, d, 0, 0)
	for i, x := range []byte{0, 4, 0, 5} {
		checkSector(t, "written again", d, i, sector(x))
	}
	if d.Sectors() != 4 || d.Size() != 64 {
		t.Errorf("%d sectors of %d bytes", d.Sectors(), d.Size())
	}
}

// P3.1: the largest disk holds different bytes in all its sectors.
func TestLargest(t *testing.T) {
	d := New(api.MaxSectors, api.MaxSector)
	content := func(i int) []byte {
		b := bytes.Repeat([]byte{byte(i)}, api.MaxSector)
		b[0], b[api.MaxSector-1] = byte(i>>8), byte(i>>4)
		return b
	}
	for i := range api.MaxSectors {
		checkErr(t, "Write", d.Write(i, content(i)), api.OK)
	}
	checkErr(t, "Flush", d.Flush(), api.OK)
	d.Crash(0, -1, 0)
	for i := range api.MaxSectors {
		if got, e := d.Read(i); e != api.OK || !bytes.Equal(got, content(i)) {
			t.Fatalf("sector %d: error %d, or other bytes", i, e)
		}
	}
}

// P3.1: sectors that do not exist, and bytes of another length; such a Write
// has no effect.
func TestWrongArguments(t *testing.T) {
	d := stable(t, 3, 1)
	for _, i := range []int{3, 4, -1, 4096, math.MinInt, math.MaxInt, 1 << 32} {
		checkNotRead(t, "no sector", d, i, api.ErrDiskPlace)
		checkErr(t, "Write to no sector", d.Write(i, sector(2)), api.ErrDiskPlace)
		// The place comes ahead of the length.
		checkErr(t, "Write of no bytes to no sector", d.Write(i, nil), api.ErrDiskPlace)
		checkErr(t, "Write of 65 bytes to no sector", d.Write(i, make([]byte, 65)), api.ErrDiskPlace)
	}
	for _, n := range []int{0, 1, 63, 65, 128, 4096} {
		checkErr(t, "Write of another length", d.Write(1, make([]byte, n)), api.ErrDiskSize)
	}
	checkErr(t, "Write of nil", d.Write(1, nil), api.ErrDiskSize)
	checkErr(t, "Write of a part", d.Write(1, sector(2)[:63]), api.ErrDiskSize)
	for i := range 3 {
		checkSector(t, "after errors", d, i, sector(1))
	}
	checkDead(t, "after errors", d, false)
	// A sector that was not written has no number at a Crash.
	write(t, d, 2, 2)
	d.Crash(1, -1, 0)
	checkSector(t, "after errors and Crash", d, 1, sector(1))
	checkSector(t, "after errors and Crash", d, 2, sector(2))
}

// P3.1, P3.2: a dead disk has no other error than ErrDiskDead.
func TestErrorsWhenDead(t *testing.T) {
	d := kill(t, 3, 1, 2)
	for range 2 {
		for _, i := range []int{0, 2, 3, -1, math.MinInt, math.MaxInt} {
			checkNotRead(t, "dead", d, i, api.ErrDiskDead)
			checkErr(t, "dead: Write", d.Write(i, sector(3)), api.ErrDiskDead)
			checkErr(t, "dead: Write of nil", d.Write(i, nil), api.ErrDiskDead)
		}
		checkErr(t, "dead: Flush", d.Flush(), api.ErrDiskDead)
		if d.Sectors() != 3 || d.Size() != 64 {
			t.Errorf("dead: %d sectors of %d bytes", d.Sectors(), d.Size())
		}
		checkDead(t, "dead", d, true)
		// Power comes back by a Crash alone.
		d.Cut(9)
	}
}

// P3.1: bytes that the caller changes, before a flush and after it, do not show,
// nor do those of an earlier Read.
func TestBytesAreCopied(t *testing.T) {
	d := New(2, 64)
	spoil := func(i int, want []byte) {
		t.Helper()
		got, _ := d.Read(i)
		for j := range got {
			got[j] = 99
		}
		_ = append(got, 99)
		_ = append(got[:5], 98)
		checkSector(t, "after a change of what was read", d, i, want)
	}
	backing := append(sector(1), 7, 7)
	b := backing[:64]
	checkErr(t, "Write", d.Write(0, b), api.OK)
	if !bytes.Equal(backing, append(sector(1), 7, 7)) {
		t.Error("Write changes its argument")
	}
	b[0], b[63] = 5, 6
	checkSector(t, "after a change of what was written", d, 0, sector(1))
	spoil(0, sector(1))
	spoil(1, sector(0))
	checkSector(t, "the other sector", d, 1, sector(0))
	checkErr(t, "Flush", d.Flush(), api.OK)
	b[1] = 8
	checkSector(t, "after a change and Flush", d, 0, sector(1))
	spoil(0, sector(1))
	spoil(1, sector(0))
	got, _ := d.Read(0)
	write(t, d, 2, 0)
	checkErr(t, "Flush", d.Flush(), api.OK)
	if !bytes.Equal(got, sector(1)) {
		t.Error("Write changes what was read earlier")
	}
	b = sector(3)
	checkErr(t, "Write", d.Write(0, b), api.OK)
	b[0] = 4
	d.Crash(0, 0, 1)
	b[0] = 5
	checkSector(t, "after a change and Crash", d, 0, half(3, 1, 2))
	spoil(0, half(3, 1, 2))
}

// P3.1, P3.3: only what has been flushed is durable.
func TestDurable(t *testing.T) {
	d := New(3, 64)
	write(t, d, 1, 0, 1)
	d.Crash(0, -1, 0)
	for i := range 3 {
		checkSector(t, "written, not flushed", d, i, sector(0))
	}
	write(t, d, 2, 0, 1)
	checkErr(t, "Flush", d.Flush(), api.OK)
	write(t, d, 3, 1, 2)
	d.Crash(0, -1, 0)
	for i, x := range []byte{2, 2, 0} {
		checkSector(t, "flushed", d, i, sector(x))
	}
	checkErr(t, "Flush of nothing", d.Flush(), api.OK)
	d.Crash(0, -1, 0)
	for i, x := range []byte{2, 2, 0} {
		checkSector(t, "a second Crash", d, i, sector(x))
	}
}

// P3.2: after Cut(n), n calls of Write and Flush succeed; the next one has no
// effect, and the disk is dead from then on.
func TestCut(t *testing.T) {
	for _, c := range []struct{ n, calls int }{{0, 0}, {1, 1}, {2, 2}, {7, 7}, {-1, 0}, {-9, 0}, {math.MinInt, 0}} {
		for _, last := range []string{"Write", "Flush"} {
			d := stable(t, 10, 9)
			d.Cut(c.n)
			checkDead(t, "scheduled", d, false)
			for i := range c.calls {
				if i%3 == 2 {
					checkErr(t, "Flush ahead of the failure", d.Flush(), api.OK)
				} else {
					write(t, d, byte(i), i)
				}
				checkDead(t, "ahead of the failure", d, false)
			}
			checkSector(t, "Read does not count", d, 9, sector(9))
			before := d.Copy()
			if last == "Write" {
				checkErr(t, "the failing Write", d.Write(9, sector(8)), api.ErrDiskDead)
			} else {
				checkErr(t, "the failing Flush", d.Flush(), api.ErrDiskDead)
			}
			checkDead(t, "failed", d, true)
			checkNotRead(t, "failed", d, 0, api.ErrDiskDead)
			checkErr(t, "after it: Write", d.Write(9, sector(8)), api.ErrDiskDead)
			checkErr(t, "after it: Flush", d.Flush(), api.ErrDiskDead)
			checkSameAfterCrash(t, "the failing "+last, d, before)
		}
	}
}

// checkSameAfterCrash checks that two disks are the same after a loss of what is
// not durable, and after one that preserves it.
func checkSameAfterCrash(t *testing.T, what string, d, other *Disk) {
	t.Helper()
	for _, keep := range []uint64{0, math.MaxUint64} {
		a, b := d.Copy(), other.Copy()
		a.Crash(keep, -1, 0)
		b.Crash(keep, -1, 0)
		for i := range b.Sectors() {
			want, _ := b.Read(i)
			checkSector(t, what, a, i, want)
		}
	}
}

// P3.2: a Flush that finds no power makes nothing durable, a Write that finds
// none writes nothing.
func TestNoEffectWithoutPower(t *testing.T) {
	d := stable(t, 2, 1)
	write(t, d, 2, 0)
	d.Cut(0)
	checkErr(t, "Flush", d.Flush(), api.ErrDiskDead)
	checkErr(t, "Flush", d.Flush(), api.ErrDiskDead)
	checkErr(t, "Write", d.Write(1, sector(3)), api.ErrDiskDead)
	c := d.Copy()
	d.Crash(0, -1, 0)
	checkSector(t, "not durable", d, 0, sector(1))
	checkSector(t, "not written", d, 1, sector(1))
	c.Crash(math.MaxUint64, 1, 64)
	checkSector(t, "written ahead", c, 0, sector(2))
	checkSector(t, "not written", c, 1, sector(1))
}

// P3.2: calls that return another error, or that are not Write and Flush, do not
// count, and get their own answer though the next one finds no power.
func TestCutDoesNotCount(t *testing.T) {
	d := New(2, 64)
	d.Cut(1)
	checkErr(t, "Write to no sector", d.Write(2, sector(1)), api.ErrDiskPlace)
	checkErr(t, "Flush", d.Flush(), api.OK)
	checkErr(t, "Write", d.Write(0, sector(1)), api.ErrDiskDead)
	for _, n := range []int{0, 1, 3} {
		d := New(2, 64)
		d.Cut(n)
		for i := range n + 1 {
			for range 3 {
				checkErr(t, "Write to no sector", d.Write(2, sector(1)), api.ErrDiskPlace)
				checkErr(t, "Write to no sector", d.Write(-1, nil), api.ErrDiskPlace)
				checkErr(t, "Write of nil", d.Write(0, nil), api.ErrDiskSize)
				checkErr(t, "Write of 65 bytes", d.Write(0, make([]byte, 65)), api.ErrDiskSize)
				checkNotRead(t, "no sector", d, 2, api.ErrDiskPlace)
				checkSector(t, "before the failure", d, 1, sector(0))
				checkDead(t, "before the failure", d, false)
				if d.Sectors() != 2 || d.Size() != 64 {
					t.Error("other sectors")
				}
				d.Copy().Flush()
			}
			if i < n {
				checkErr(t, "Flush", d.Flush(), api.OK)
			}
		}
		checkErr(t, "Flush, no power", d.Flush(), api.ErrDiskDead)
	}
}

// P3.2: a later Cut replaces an earlier one.
func TestLaterCut(t *testing.T) {
	for _, c := range []struct{ first, calls, second, left int }{
		{0, 0, 2, 2},
		{-4, 0, 2, 2},
		{5, 0, 1, 1},
		{5, 0, 0, 0},
		{5, 0, -5, 0},
		{2, 2, 3, 3},
		{3, 2, 3, 3},
		{3, 1, 0, 0},
	} {
		d := New(1, 64)
		d.Cut(c.first)
		for range c.calls {
			checkErr(t, "Flush ahead of the second Cut", d.Flush(), api.OK)
		}
		d.Cut(c.second)
		for range c.left {
			checkErr(t, "Flush after the second Cut", d.Flush(), api.OK)
		}
		checkErr(t, "no power", d.Flush(), api.ErrDiskDead)
	}
	d := New(1, 64)
	d.Cut(0)
	d.Cut(math.MaxInt)
	for range 1000 {
		write(t, d, 1, 0)
	}
	for range 10000 {
		checkErr(t, "Flush, nothing scheduled", New(1, 64).Flush(), api.OK)
	}
}

// P3.2: Crash cancels what is scheduled, and a dead disk is not dead afterwards.
func TestCrashRestoresPower(t *testing.T) {
	for _, n := range []int{0, 1, 5} {
		d := New(2, 64)
		d.Cut(n)
		d.Crash(0, -1, 0)
		checkDead(t, "Crash of a scheduled failure", d, false)
		for range 20 {
			write(t, d, 1, 0)
			checkErr(t, "Flush", d.Flush(), api.OK)
		}
	}
	d := kill(t, 2, 1, 2)
	d.Cut(1)
	d.Crash(1, -1, 0)
	checkDead(t, "Crash of a dead disk", d, false)
	checkSector(t, "preserved", d, 0, sector(2))
	checkSector(t, "the failed Write", d, 1, sector(1))
	for range 20 {
		write(t, d, 3, 1)
		checkErr(t, "Flush", d.Flush(), api.OK)
	}
	checkErr(t, "place", d.Write(2, sector(1)), api.ErrDiskPlace)
	d.Cut(1)
	checkErr(t, "one more", d.Flush(), api.OK)
	checkErr(t, "a new failure", d.Flush(), api.ErrDiskDead)
}

// P3.2: which sectors have a number, and which number.
func TestCrashNumbers(t *testing.T) {
	d := stable(t, 8, 1)
	write(t, d, 2, 7, 2, 5)
	write(t, d, 3, 2)
	write(t, d, 1, 4) // written, though with the bytes that it has
	for keep := range uint64(16) {
		c := d.Copy()
		c.Crash(keep, -1, 0)
		want := []byte{1, 1, 1, 1, 1, 1, 1, 1}
		for k, i := range []int{2, 4, 5, 7} {
			if keep>>k&1 == 1 {
				want[i] = []byte{3, 1, 2, 2}[k]
			}
		}
		for i, x := range want {
			checkSector(t, "Crash", c, i, sector(x))
		}
	}
	checkErr(t, "Flush", d.Flush(), api.OK)
	write(t, d, 9, 6)
	d.Crash(1, -1, 0)
	for i, x := range []byte{1, 1, 3, 1, 1, 2, 9, 2} {
		checkSector(t, "sectors that are durable have no number", d, i, sector(x))
	}
	write(t, d, 8, 0, 1)
	d.Crash(2, -1, 0)
	for i, x := range []byte{1, 8, 3, 1, 1, 2, 9, 2} {
		checkSector(t, "numbers after a Crash", d, i, sector(x))
	}
}

// P3.2: torn, below the numbers, the first, one between, the last, and above.
func TestCrashTorn(t *testing.T) {
	cases := []struct {
		keep uint64
		torn int
		want [3][]byte
	}{
		{0, -1, [3][]byte{sector(1), sector(1), sector(1)}},
		{7, -1, [3][]byte{sector(2), sector(2), sector(2)}},
		{0, 0, [3][]byte{half(2, 20, 1), sector(1), sector(1)}},
		{7, 0, [3][]byte{half(2, 20, 1), sector(2), sector(2)}},
		{0, 1, [3][]byte{sector(1), half(2, 20, 1), sector(1)}},
		{7, 1, [3][]byte{sector(2), half(2, 20, 1), sector(2)}},
		{3, 2, [3][]byte{sector(2), sector(2), half(2, 20, 1)}},
		{5, 2, [3][]byte{sector(2), sector(1), half(2, 20, 1)}},
		{0, 3, [3][]byte{sector(1), sector(1), sector(1)}},
		{7, 3, [3][]byte{sector(2), sector(2), sector(2)}},
		{7, 64, [3][]byte{sector(2), sector(2), sector(2)}},
		{6, 66, [3][]byte{sector(1), sector(2), sector(2)}},
		{6, math.MaxInt, [3][]byte{sector(1), sector(2), sector(2)}},
		{6, math.MinInt, [3][]byte{sector(1), sector(2), sector(2)}},
	}
	for _, c := range cases {
		d := stable(t, 6, 1)
		write(t, d, 2, 5, 1, 3)
		d.Crash(c.keep, c.torn, 20)
		for k, i := range []int{1, 3, 5} {
			checkSector(t, "torn or kept", d, i, c.want[k])
		}
		for _, i := range []int{0, 2, 4} {
			checkSector(t, "not written", d, i, sector(1))
		}
		d.Crash(math.MaxUint64, 0, 1)
		for k, i := range []int{1, 3, 5} {
			checkSector(t, "all bytes are durable then", d, i, c.want[k])
		}
	}
}

// P3.2: at, below 0, at the bounds, between them, and above the size.
func TestCrashAt(t *testing.T) {
	for _, c := range []struct{ at, first int }{
		{math.MinInt, 0}, {-1, 0}, {0, 0}, {1, 1}, {32, 32}, {63, 63}, {64, 64}, {65, 64}, {math.MaxInt, 64},
	} {
		for _, keep := range []uint64{0, 1} {
			d := stable(t, 2, 1)
			write(t, d, 2, 1)
			d.Crash(keep, 0, c.at)
			checkSector(t, "torn", d, 1, half(2, c.first, 1))
		}
	}
	d := New(1, 100)
	b := bytes.Repeat([]byte{7}, 100)
	checkErr(t, "Write", d.Write(0, b), api.OK)
	d.Crash(0, 0, 99)
	b[99] = 0
	checkSector(t, "torn at 99 of 100", d, 0, b)
}

// P3.2: from the 64th number on, the bits of keep begin again; torn does not.
func TestCrashManyNumbers(t *testing.T) {
	keeps := []uint64{0, 1, 1 << 63, 1<<63 | 1, 0x8000000080000001, 0x5555555555555555, math.MaxUint64, 0x123456789abcdef0}
	for _, keep := range keeps {
		for _, torn := range []int{-1, 0, 1, 63, 64, 65, 127, 128, 199, 200} {
			d := stable(t, 201, 1)
			for k := range 200 {
				write(t, d, 2, 200-k)
			}
			d.Crash(keep, torn, 9)
			checkSector(t, "not written", d, 0, sector(1))
			for k := range 200 {
				want := sector(1)
				if k == torn {
					want = half(2, 9, 1)
				} else if keep&(1<<(k%64)) != 0 {
					want = sector(2)
				}
				checkSector(t, "kept or torn", d, k+1, want)
			}
		}
	}
}

// P3.2: a Crash without anything written changes no byte.
func TestCrashOfNothing(t *testing.T) {
	d := stable(t, 3, 1)
	for _, torn := range []int{-1, 0, 1} {
		d.Crash(math.MaxUint64, torn, 5)
		for i := range 3 {
			checkSector(t, "Crash", d, i, sector(1))
		}
	}
}

// P3.2: a copy has the same sectors, and what happens to one of the two does not
// happen to the other.
func TestCopyContents(t *testing.T) {
	d := stable(t, 4, 1)
	write(t, d, 2, 0, 2)
	c := d.Copy()
	if c == d || c.Sectors() != 4 || c.Size() != 64 {
		t.Errorf("a copy of %d sectors of %d bytes", c.Sectors(), c.Size())
	}
	for i, x := range []byte{2, 1, 2, 1} {
		checkSector(t, "a copy", c, i, sector(x))
	}
	write(t, c, 3, 0, 1)
	checkErr(t, "Flush", c.Flush(), api.OK)
	for i, x := range []byte{2, 1, 2, 1} {
		checkSector(t, "Write of the copy", d, i, sector(x))
	}
	write(t, d, 4, 2, 3)
	for i, x := range []byte{3, 3, 2, 1} {
		checkSector(t, "Write of the original", c, i, sector(x))
	}
	d.Crash(0, -1, 0)
	for i := range 4 {
		checkSector(t, "Flush of the copy", d, i, sector(1))
	}
	c.Crash(0, -1, 0)
	for i, x := range []byte{3, 3, 2, 1} {
		checkSector(t, "Crash of both", c, i, sector(x))
	}
	e := c.Copy()
	write(t, c, 5, 0)
	c.Crash(0, 0, 10)
	checkSector(t, "torn", c, 0, half(5, 10, 3))
	checkSector(t, "Crash of the original", e, 0, sector(3))
}

// P3.2: missing power and a scheduled failure are copied, and are of the copy
// alone then.
func TestCopyPower(t *testing.T) {
	d := kill(t, 2, 1, 2)
	c := d.Copy()
	d.Crash(0, -1, 0)
	checkDead(t, "the original", d, false)
	checkDead(t, "a copy of a dead disk", c, true)
	checkNotRead(t, "a copy of a dead disk", c, 0, api.ErrDiskDead)
	checkErr(t, "a copy of a dead disk: Write", c.Write(0, sector(3)), api.ErrDiskDead)
	checkErr(t, "a copy of a dead disk: Flush", c.Flush(), api.ErrDiskDead)
	c.Crash(1, -1, 0)
	checkSector(t, "written ahead of the failure", c, 0, sector(2))
	checkErr(t, "the copy has power", c.Flush(), api.OK)

	d.Cut(2)
	checkErr(t, "Flush", d.Flush(), api.OK)
	c = d.Copy()
	late := d.Copy()
	checkErr(t, "the copy: Flush", c.Flush(), api.OK)
	checkErr(t, "the copy: no power", c.Flush(), api.ErrDiskDead)
	checkDead(t, "the original", d, false)
	d.Cut(0)
	checkErr(t, "the original: no power", d.Flush(), api.ErrDiskDead)
	checkErr(t, "a later copy: Flush", late.Flush(), api.OK)
	checkErr(t, "a later copy: no power", late.Flush(), api.ErrDiskDead)

	d = New(1, 64)
	c = d.Copy()
	c.Cut(0)
	checkErr(t, "Cut of the copy", d.Flush(), api.OK)
	checkErr(t, "Cut of the copy", c.Flush(), api.ErrDiskDead)
	checkDead(t, "Cut of the copy", d, false)
}

// P3.3: whatever crashes come, durable bytes survive until they are replaced.
func TestDurableSurvives(t *testing.T) {
	r := rand.New(rand.NewSource(1))
	d := stable(t, 70, 7)
	for range 300 {
		if r.Intn(2) == 0 {
			d.Cut(r.Intn(3))
			for range 3 {
				d.Flush()
			}
			checkDead(t, "cut", d, true)
		}
		d.Crash(r.Uint64(), r.Intn(74)-2, r.Intn(80)-8)
		for i := range 70 {
			checkSector(t, "Crash", d, i, sector(7))
		}
	}
	for range 300 {
		write(t, d, 8, r.Intn(10), 20+r.Intn(10))
		d.Crash(r.Uint64(), r.Intn(4)-1, r.Intn(80)-8)
		for i := range 70 {
			if i >= 30 || 10 <= i && i < 20 {
				checkSector(t, "Crash beside others", d, i, sector(7))
			}
		}
	}
}
