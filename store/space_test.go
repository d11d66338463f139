package store

import (
	"math/rand"
	"strconv"
	"strings"
	"testing"

	"augur/api"
	"augur/disk"
)

// counted returns what the document counts for pairs, and for those of a model.
func counted(m model, pairs []Pair) int {
	n := m.size() + 64*len(m)
	for _, p := range pairs {
		n += len(p.Key) + len(p.Value) + 64
	}
	return n
}

// promised returns the number of bytes up to which Apply finds space.
func promised(d *disk.Disk) int {
	return d.Sectors()*d.Size()/8 - 8*d.Size()
}

// P5.2: Compact leaves nothing in the log but the pairs that are held.
func TestCompact(t *testing.T) {
	d := disk.New(64, 256)
	s := open(t, d)
	checkErr(t, "an empty store", s.Compact(), api.OK)
	check(t, "an empty store", s, d, model{})
	empty, _ := logOf(t, d)
	for range 20 {
		mustApply(t, s, set("a", "1", "b", "2", "c", strings.Repeat("3", 50))...)
		mustApply(t, s, gone("a"), gone("none"))
	}
	full, _ := logOf(t, d)
	checkErr(t, "Compact", s.Compact(), api.OK)
	want := model{"b": "2", "c": strings.Repeat("3", 50)}
	check(t, "Compact", s, d, want)
	l, records := logOf(t, d)
	if len(records) != 2 || l.Room() <= full.Room() {
		t.Errorf("%d records, Room %d, was %d", len(records), l.Room(), full.Room())
	}
	mustApply(t, s, gone("b"), gone("c"))
	checkErr(t, "Compact of none", s.Compact(), api.OK)
	check(t, "Compact of none", s, d, model{})
	if l, records := logOf(t, d); len(records) != 0 || l.Room() != empty.Room() {
		t.Errorf("%d records, Room %d of %d", len(records), l.Room(), empty.Room())
	}
}

// P5.2: Compact has no other error than that of the disk, however full the log.
func TestCompactFull(t *testing.T) {
	for _, c := range []struct{ sectors, size, length int }{{16, 128, 0}, {16, 128, 40}, {33, 200, 7}, {64, 256, 900}} {
		d := disk.New(c.sectors, c.size)
		s, m := open(t, d), model{}
		for i := 0; ; i++ {
			p := Pair{Key: strconv.Itoa(i), Value: strings.Repeat("v", c.length)}
			e := s.Apply(p)
			if e == api.ErrFull {
				break
			}
			checkErr(t, "Apply", e, api.OK)
			m = m.with(p)
			checkErr(t, "Compact", s.Compact(), api.OK)
		}
		checkErr(t, "Compact of a full log", s.Compact(), api.OK)
		check(t, "a full log", s, d, m)
		d.Cut(0)
		checkErr(t, "Compact without power", s.Compact(), api.ErrDiskDead)
	}
}

// P5.2: Compact has no other error either where the log refuses a Reset, which it
// may: it promises less space to one Reset than to many Commits.
func TestCompactRefused(t *testing.T) {
	d := disk.New(100, 128)
	s := open(t, d)
	mustApply(t, s, set("a", strings.Repeat("1", 4000))...)
	whole := s.records
	s.records, _ = logOf(t, disk.New(16, 128))
	checkErr(t, "Compact", s.Compact(), api.OK)
	s.records = whole
	check(t, "Compact refused", s, d, model{"a": strings.Repeat("1", 4000)})
}

// P5.2: as much as is promised to the byte, at once and one after another, many
// times over.
func TestPromisedBytes(t *testing.T) {
	for _, c := range []struct{ sectors, size int }{{80, 128}, {100, 512}, {129, 131}, {500, 128}, {4096, 256}} {
		d := disk.New(c.sectors, c.size)
		n := promised(d)
		s := open(t, d)
		for i := range 20 {
			one := Pair{Value: strings.Repeat(string(rune('a'+i)), n/2-64)}
			mustApply(t, s, one)
			check(t, "one of half the length", s, d, model{}.with(one))
		}
		mustApply(t, s, gone(""))
		mustApply(t, s, Pair{Value: strings.Repeat("w", n-128)})
		mustApply(t, s, gone(""))
		for i := range 20 {
			pairs := small(i, n-70)
			mustApply(t, s, pairs...)
			check(t, "small ones", s, d, model{}.with(pairs...))
			for _, p := range pairs {
				mustApply(t, s, gone(p.Key))
			}
		}
	}
}

// small returns pairs that count as n bytes or a little less, of 70 each.
func small(i, n int) []Pair {
	var pairs []Pair
	for k := range n / 70 {
		pairs = append(pairs, Pair{Key: strconv.Itoa(100000 + 1000*i + k)})
	}
	return pairs
}

// P5.2: random calls on random disks: none is refused that the document promises.
func TestPromisedCalls(t *testing.T) {
	r := rand.New(rand.NewSource(5))
	full := 0
	for range 150 {
		d := disk.New(64+r.Intn(100), 128+r.Intn(300))
		s, m := open(t, d), model{}
		length := 1 + r.Intn(promised(d)+200)
		for range 60 {
			pairs := randomPairs(r, 6, length)
			e := s.Apply(pairs...)
			if e == api.OK {
				m = m.with(pairs...)
			} else if full++; e != api.ErrFull || counted(m, pairs) <= promised(d) {
				t.Fatalf("Apply of %d pairs, %d of %d bytes: error %d", len(pairs), counted(m, pairs), promised(d), e)
			}
			if !m.like(s) {
				t.Fatal("the store differs")
			}
		}
		check(t, "the end", s, d, m)
	}
	if full == 0 {
		t.Error("no disk was ever full")
	}
}

// fillUp returns a store of which the log has no space for one more pair, even
// after compaction.
func fillUp(t *testing.T, d *disk.Disk) (*Store, model) {
	t.Helper()
	s, m := open(t, d), model{}
	for i := range 1 << 16 {
		p := Pair{Key: "key" + strconv.Itoa(i), Value: strings.Repeat("v", 20)}
		e := s.Apply(p)
		if e == api.ErrFull {
			check(t, "full", s, d, m)
			return s, m
		}
		checkErr(t, "Apply", e, api.OK)
		m = m.with(p)
	}
	t.Fatal("a store that is never full")
	return nil, nil
}

// P5.1, P5.2: ErrFull comes only when no compaction helps: a store that is full
// still takes changes that don't lengthen it, and more after them.
func TestFull(t *testing.T) {
	d := disk.New(64, 128)
	s, m := fillUp(t, d)
	apply := func(what string, pairs ...Pair) {
		t.Helper()
		checkErr(t, what, s.Apply(pairs...), api.OK)
		m = m.with(pairs...)
		check(t, what, s, d, m)
	}
	for i := range 30 {
		apply("a value of the same length", set("key3", strings.Repeat(strconv.Itoa(i%10), 20))...)
	}
	apply("one for another", gone("key4"), Pair{Key: "key+", Value: strings.Repeat("w", 20)})
	var all []Pair
	for k := range m {
		all = append(all, Pair{Key: k, Value: strings.Repeat("x", 20)})
	}
	apply("all values", all...)
	apply("one removed", gone("key5"))
	apply("space for another", set("key6", strings.Repeat("z", 40))...)
	more := append(set("key7", "less"), set("more", strings.Repeat("m", 20000))...)
	checkErr(t, "too much", s.Apply(more...), api.ErrFull)
	check(t, "too much", s, d, m)
	s = open(t, d)
	for k := range m {
		apply("removed", gone(k))
	}
	fillUp(t, d)
}
