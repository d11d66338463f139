package store

import (
	"math/rand"
	"strings"
	"testing"

	"augur/api"
	"augur/disk"
)

// crashes calls f with copies of a disk, one for each way in which power may
// fail and return: what is kept, which sector is torn, and where.
func crashes(d *disk.Disk, f func(*disk.Disk)) {
	one := func(keep uint64, torn, at int) {
		c := d.Copy()
		c.Crash(keep, torn, at)
		f(c)
	}
	const all = ^uint64(0)
	for _, keep := range []uint64{0, all, 0x5555555555555555, 0xaaaaaaaaaaaaaaaa} {
		one(keep, -1, 0)
		for k := range 6 {
			one(keep^1<<k, -1, 0)
			for _, at := range []int{0, 1, 4, 9, 16, 17, 33, 64, d.Size() - 1} {
				one(keep, k, at)
			}
		}
	}
}

// checkCrashes checks a call on the store of a disk, crashed at every write and
// flush in many ways. It returns the number of writes and flushes.
func checkCrashes(t *testing.T, what string, d *disk.Disk, before, after model, call func(*Store) api.Errno) int {
	t.Helper()
	for n := range 10000 {
		cut := d.Copy()
		s := open(t, cut)
		cut.Cut(n)
		e := call(s)
		least := before
		if e == api.OK {
			least = after
		} else if e != api.ErrDiskDead || !s.Down() {
			t.Fatalf("%s, cut after %d: error %d, down %t", what, n, e, s.Down())
		}
		if !least.like(s) {
			t.Fatalf("%s, cut after %d: error %d, keys %.200q", what, n, e, s.Keys(""))
		}
		crashes(cut, func(crashed *disk.Disk) {
			if o := open(t, crashed); !least.like(o) && !after.like(o) {
				t.Fatalf("%s, cut after %d: error %d, keys after Open %.200q", what, n, e, o.Keys(""))
			}
		})
		if e == api.OK {
			return n
		}
	}
	t.Fatal("a call that writes forever")
	return 0
}

// P5.3, P5.4: an Apply of several pairs, to each of several stores.
func TestCrashesOfApply(t *testing.T) {
	long := strings.Repeat("long", 60)
	changes := [][]Pair{
		nil,
		set("a", "9"),
		{gone("a"), gone("none")},
		{{Key: "a", Value: "8"}, gone("b"), {Key: "c", Value: long}, {Key: "a", Value: "7"}},
		{{Key: "b", Value: long}, {Key: long, Value: "b"}, gone("a")},
	}
	for _, first := range [][]Pair{nil, set("a", "1", "b", "2"), set("a", long, "b", long, "c", "")} {
		d := disk.New(40, 128)
		mustApply(t, open(t, d), first...)
		before := model{}.with(first...)
		for _, pairs := range changes {
			checkCrashes(t, "Apply", d, before, before.with(pairs...), func(s *Store) api.Errno { return s.Apply(pairs...) })
		}
	}
}

// P5.3, P5.4: an Apply that finds space only by compaction.
func TestCrashesOfApplyInFullLog(t *testing.T) {
	d := disk.New(24, 128)
	s, m := fillUp(t, d)
	for _, pairs := range [][]Pair{
		{gone("key1"), gone("key2"), {Key: "one", Value: "more"}},
		set("key0", strings.Repeat("w", 20), "key3", strings.Repeat("w", 19), "key4", "u"),
	} {
		l, records := logOf(t, d)
		if e := l.Commit(recordsOf(pairs)...); e != api.ErrFull {
			t.Fatalf("the log still has space for %d bytes behind %d records", l.Room(), len(records))
		}
		n := checkCrashes(t, "Apply in a full log", d, m, m.with(pairs...), func(s *Store) api.Errno { return s.Apply(pairs...) })
		if n < 4 {
			t.Errorf("only %d writes and flushes", n)
		}
	}
	check(t, "the store itself", s, d, m)
}

// P5.3: a Compact, of a log with and without obsolete data.
func TestCrashesOfCompact(t *testing.T) {
	d := disk.New(40, 128)
	s, m := open(t, d), model{}
	compact := (*Store).Compact
	checkCrashes(t, "Compact of none", d, m, m, compact)
	for _, pairs := range [][]Pair{
		set("a", "1", "b", strings.Repeat("2", 200)), {gone("b"), gone("c")}, set("c", strings.Repeat("3", 300), "a", "4"), {gone("a"), gone("c")},
	} {
		mustApply(t, s, pairs...)
		m = m.with(pairs...)
		checkCrashes(t, "Compact", d, m, m, compact)
		compacted := d.Copy()
		checkErr(t, "Compact", open(t, compacted).Compact(), api.OK)
		checkCrashes(t, "Compact of a compacted log", compacted, m, m, compact)
	}
}

// P5.3, P5.4: random lives, with crashes during Apply, Compact and Open.
func TestCrashesOfRandomLives(t *testing.T) {
	r := rand.New(rand.NewSource(6))
	for range 800 {
		d := disk.New(16+r.Intn(60), 128+r.Intn(200))
		s, m := open(t, d), model{}
		for range 12 {
			next, e := m, api.OK
			d.Cut(r.Intn(30))
			for range 5 {
				if m = next; r.Intn(5) == 0 {
					e = s.Compact()
				} else {
					pairs := randomPairs(r, 5, 120)
					if e = s.Apply(pairs...); e != api.ErrFull {
						next = m.with(pairs...)
					}
				}
				if e != api.OK && e != api.ErrFull {
					break
				}
			}
			if e != api.ErrDiskDead {
				m = next
			}
			if !m.like(s) {
				t.Fatalf("error %d: keys %q", e, s.Keys(""))
			}
			d.Crash(r.Uint64(), r.Intn(8)-2, r.Intn(300))
			if r.Intn(3) == 0 {
				d.Cut(r.Intn(3))
				Open(d)
				d.Crash(r.Uint64(), r.Intn(8)-2, r.Intn(300))
			}
			if s = open(t, d); !m.like(s) && !next.like(s) {
				t.Fatalf("error %d, after the crash: keys %q", e, s.Keys(""))
			} else if !m.like(s) {
				m = next
			}
		}
	}
}
