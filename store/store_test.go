package store

import (
	"maps"
	"math/rand"
	"slices"
	"strings"
	"testing"

	"augur/api"
	"augur/code"
	"augur/disk"
	"augur/wal"
)

// model is what a store ought to hold: values by key.
type model map[string]string

// with returns the model after pairs.
func (m model) with(pairs ...Pair) model {
	next := maps.Clone(m)
	for _, p := range pairs {
		if p.Gone {
			delete(next, p.Key)
		} else {
			next[p.Key] = p.Value
		}
	}
	return next
}

func (m model) size() int {
	n := 0
	for k, v := range m {
		n += len(k) + len(v)
	}
	return n
}

// like reports whether all that a store tells is what m holds.
func (m model) like(s *Store) bool {
	for k, v := range m {
		if got, ok := s.Get(k); !ok || got != v {
			return false
		}
	}
	return s.Size() == m.size() && slices.Equal(s.Keys(""), slices.Sorted(maps.Keys(m)))
}

// set returns pairs that set keys to values, which take turns in kv.
func set(kv ...string) []Pair {
	var pairs []Pair
	for c := range slices.Chunk(kv, 2) {
		pairs = append(pairs, Pair{Key: c[0], Value: c[1]})
	}
	return pairs
}

func gone(key string) Pair { return Pair{Key: key, Gone: true} }

func open(t *testing.T, d *disk.Disk) *Store {
	t.Helper()
	s, e := Open(d)
	if e != api.OK || s.Down() {
		t.Fatalf("Open: error %d, down %t", e, e == api.OK)
	}
	return s
}

// checkNone checks that Open returns the error, and no store.
func checkNone(t *testing.T, what string, d *disk.Disk, want api.Errno) {
	t.Helper()
	if s, e := Open(d); e != want || s != nil {
		t.Errorf("%s: error %d, store %t, want error %d alone", what, e, s != nil, want)
	}
}

func checkErr(t *testing.T, what string, got, want api.Errno) {
	t.Helper()
	if got != want {
		t.Errorf("%s: error %d, want %d", what, got, want)
	}
}

// check checks what a store holds, and what Open finds on its disk.
func check(t *testing.T, what string, s *Store, d *disk.Disk, want model) {
	t.Helper()
	if !want.like(s) {
		t.Errorf("%s: keys %.200q, want those of %d pairs", what, s.Keys(""), len(want))
	}
	if o := open(t, d); !want.like(o) {
		t.Errorf("%s, after Open: keys %.200q, want those of %d pairs", what, o.Keys(""), len(want))
	}
}

func mustApply(t *testing.T, s *Store, pairs ...Pair) {
	t.Helper()
	if e := s.Apply(pairs...); e != api.OK {
		t.Fatalf("Apply: error %d", e)
	}
}

// logOf returns the log of a disk and its records.
func logOf(t *testing.T, d *disk.Disk) (*wal.Log, [][]byte) {
	t.Helper()
	l, records, e := wal.Open(d)
	if e != api.OK {
		t.Fatalf("wal.Open: error %d", e)
	}
	return l, records
}

// randomPairs returns fewer than count pairs; their keys are few, so that they
// meet, and their values have fewer than length bytes.
func randomPairs(r *rand.Rand, count, length int) []Pair {
	var pairs []Pair
	for range r.Intn(count) {
		b := make([]byte, r.Intn(length))
		r.Read(b)
		key := strings.Repeat("k", r.Intn(4)) + string([]byte{byte(r.Intn(3)) * 127})
		pairs = append(pairs, Pair{Key: key, Value: string(b), Gone: r.Intn(4) == 0})
	}
	return pairs
}

// P5.1: the errors of Open that are those of the log, in their order.
func TestOpenErrors(t *testing.T) {
	checkNone(t, "the document's disk", disk.New(9, 512), api.ErrForm)
	checkNone(t, "few sectors", disk.New(15, 4096), api.ErrForm)
	checkNone(t, "small sectors", disk.New(4096, 127), api.ErrForm)
	checkNone(t, "no disk", nil, api.ErrForm)
	small := disk.New(9, 512)
	small.Cut(0)
	small.Flush()
	checkNone(t, "a small disk without power", small, api.ErrForm)
	d := disk.New(16, 128)
	mustApply(t, open(t, d), set("a", "1")...)
	d.Cut(0)
	d.Flush()
	checkNone(t, "a disk without power", d, api.ErrDiskDead)
	d.Crash(0, -1, 0)
	check(t, "power has returned", open(t, d), d, model{"a": "1"})
	fresh := disk.New(16, 128)
	fresh.Cut(0)
	checkNone(t, "power fails at once", fresh, api.ErrDiskDead)
}

// P5.1: a disk without a log is an empty store, whatever lies on it.
func TestOpenEmpty(t *testing.T) {
	r := rand.New(rand.NewSource(1))
	for i := range 20 {
		d := disk.New(16+r.Intn(9), 128+r.Intn(40))
		for s := range d.Sectors() {
			b := make([]byte, d.Size())
			if i > 0 {
				r.Read(b)
			}
			d.Write(s, b)
		}
		s := open(t, d)
		check(t, "other bytes", s, d, model{})
		mustApply(t, s, set("a", "1")...)
		check(t, "a pair on other bytes", s, d, model{"a": "1"})
	}
}

// P5.1: a log that doesn't hold a store's records, or not only those.
func TestOpenOtherRecords(t *testing.T) {
	d := disk.New(30, 128)
	mustApply(t, open(t, d), Pair{Key: "k", Value: "value"}, gone("g"), Pair{})
	_, kept := logOf(t, d)
	others := [][]byte{
		nil, []byte("abc"), {0}, {0, 0}, {0, 0, 0}, {1, 2, 3}, make([]byte, 100), []byte(strings.Repeat("\xff", 20)),
		texts("set"), texts("set", "k"), texts("set", "k", "v", ""), texts("gone"), texts("gone", "k", "v"),
		texts("", "k", "v"), texts("put", "k", "v"), texts("Set", "k", "v"),
	}
	for _, k := range kept {
		others = append(others, append(slices.Clone(k), 0), append([]byte{0}, k...))
		for n := range k {
			others = append(others, k[:n])
		}
	}
	for _, o := range others {
		for _, records := range [][][]byte{{o}, append(slices.Clone(kept), o), append([][]byte{o}, kept...)} {
			other := disk.New(60, 128)
			l, _ := logOf(t, other)
			checkErr(t, "Reset", l.Reset(records...), api.OK)
			checkNone(t, "other records", other, api.ErrForm)
		}
	}
	l, _ := logOf(t, d)
	checkErr(t, "Reset", l.Reset(kept...), api.OK)
	check(t, "the same records", open(t, d), d, model{"k": "value", "": ""})
}

func texts(s ...string) []byte {
	w := code.NewWriter()
	w.Text(s...)
	return w.Bytes()
}

// P5.1: a record of more bytes than those of any pair of a store.
func TestOpenLongRecord(t *testing.T) {
	d := disk.New(4096, 1024)
	l, _ := logOf(t, d)
	most := strings.Repeat("x", api.MaxRecord-64)
	checkErr(t, "Reset", l.Reset(texts("set", "", most)), api.OK)
	if v, ok := open(t, d).Get(""); !ok || v != most {
		t.Errorf("the longest value: %d bytes, %t", len(v), ok)
	}
	for _, o := range [][]byte{texts("set", "k", most), texts("gone", "k"+most)} {
		checkErr(t, "Reset", l.Reset(o), api.OK)
		checkNone(t, "a longer record", d, api.ErrForm)
	}
}

// P5.1: the document's examples, and how pairs of one call act on each other.
func TestApply(t *testing.T) {
	d := disk.New(100, 512)
	s := open(t, d)
	mustApply(t, s, set("", "0", "k/a", "1", "k/b", "22", "k/c", "4")...)
	mustApply(t, s, gone("k/c"))
	if v, ok := s.Get("k/c"); v != "" || ok {
		t.Errorf("a key that is gone: %q, %t", v, ok)
	}
	if got := s.Keys("k/"); !slices.Equal(got, []string{"k/a", "k/b"}) {
		t.Errorf("Keys: %q", got)
	}
	check(t, "after two calls", s, d, model{"": "0", "k/a": "1", "k/b": "22"})
	mustApply(t, s, Pair{Key: "x", Value: "1"}, Pair{Key: "x", Value: "2"}, gone("y"), Pair{Key: "z", Value: "3"}, gone("z"), gone(""), Pair{Key: "", Value: "9"})
	check(t, "several pairs of a key", s, d, model{"": "9", "k/a": "1", "k/b": "22", "x": "2"})
	mustApply(t, s, Pair{Key: "x", Value: "ignored", Gone: true}, Pair{Key: "k/a"})
	check(t, "a value of one that is gone", s, d, model{"": "9", "k/a": "", "k/b": "22"})
	mustApply(t, s)
	check(t, "no pairs", s, d, model{"": "9", "k/a": "", "k/b": "22"})
	mustApply(t, s, gone(""), gone("k/a"), gone("k/b"))
	check(t, "all gone", s, d, model{})
}

// P5.1: keys that never were, that are empty, and that have the empty value.
func TestGet(t *testing.T) {
	s := open(t, disk.New(16, 128))
	look := func(key, want string, has bool) {
		t.Helper()
		if v, ok := s.Get(key); v != want || ok != has {
			t.Errorf("Get(%q): %q, %t, want %q, %t", key, v, ok, want, has)
		}
	}
	look("", "", false)
	look("a", "", false)
	mustApply(t, s, set("a", "", "", "e", "\x00", "\xff\x00")...)
	look("a", "", true)
	look("", "e", true)
	look("\x00", "\xff\x00", true)
	look("A", "", false)
	look("aa", "", false)
}

// P5.1: Keys goes by bytes, not by runes or letters, and by whole prefixes.
func TestKeys(t *testing.T) {
	s := open(t, disk.New(64, 128))
	keys := []string{"", "\x00", "Z", "a", "a\x00", "aa", "ab", "b", "\x7f", "\x80", "é", "\xff", "\xff\xff", "\uffff", "𝄞"}
	for _, k := range rand.New(rand.NewSource(2)).Perm(len(keys)) {
		mustApply(t, s, set(keys[k], "v")...)
	}
	for _, c := range []struct {
		prefix string
		want   []string
	}{
		{"", []string{"", "\x00", "Z", "a", "a\x00", "aa", "ab", "b", "\x7f", "\x80", "é", "\uffff", "𝄞", "\xff", "\xff\xff"}},
		{"a", []string{"a", "a\x00", "aa", "ab"}},
		{"b", []string{"b"}},
		{"a\x00", []string{"a\x00"}},
		{"\xff", []string{"\xff", "\xff\xff"}},
		{"\xc3", []string{"é"}},
		{"A", nil}, {"abc", nil}, {"aab", nil},
	} {
		if got := s.Keys(c.prefix); !slices.Equal(got, c.want) {
			t.Errorf("Keys(%q): %q, want %q", c.prefix, got, c.want)
		}
	}
}

// P5.1: Size counts the bytes of keys and of values, those that are held alone.
func TestSize(t *testing.T) {
	d := disk.New(64, 128)
	s := open(t, d)
	for _, c := range []struct {
		pairs []Pair
		want  int
	}{
		{nil, 0}, {set("", ""), 0}, {set("ab", "cde"), 5}, {set("ab", "c"), 3}, {set("é", "ü"), 7},
		{[]Pair{gone("none"), gone("é")}, 3}, {set("x", strings.Repeat("y", 500)), 504}, {[]Pair{gone("x"), gone("ab")}, 0},
	} {
		mustApply(t, s, c.pairs...)
		if s.Size() != c.want || open(t, d).Size() != c.want {
			t.Errorf("Size %d, after Open %d, want %d", s.Size(), open(t, d).Size(), c.want)
		}
	}
}

// P5.1: pairs of the greatest length, and those of a byte more.
func TestLongPairs(t *testing.T) {
	d := disk.New(4096, 4096)
	s := open(t, d)
	most := strings.Repeat("x", api.MaxRecord-64)
	for _, p := range []Pair{{Key: "key", Value: most[3:]}, {Value: most}, {Key: most}, {Key: most, Gone: true}, {Key: "key", Value: most[3:], Gone: true}} {
		mustApply(t, s, Pair{Key: "kept", Value: "1"}, p)
		want := model{"kept": "1"}.with(p)
		check(t, "the longest", s, d, want)
		longer := p
		longer.Key += "+"
		checkErr(t, "a byte more", s.Apply(longer), api.ErrRecord)
		checkErr(t, "a byte more, behind another", s.Apply(Pair{Key: "kept", Value: "2"}, longer), api.ErrRecord)
		checkErr(t, "a byte more, ahead of another", s.Apply(longer, gone("kept")), api.ErrRecord)
		check(t, "a byte more", s, d, want)
		mustApply(t, s, gone("key"), gone(""), gone(most))
	}
	big := Pair{Key: "big", Value: strings.Repeat("x", 1<<20-66)}
	checkErr(t, "the document's example", s.Apply(big), api.ErrRecord)
	check(t, "the end", s, d, model{"kept": "1"})
}

// P5.1: the errors of Apply in their order; none of them changes anything.
func TestApplyErrors(t *testing.T) {
	d := disk.New(100, 512)
	s := open(t, d)
	mustApply(t, s, set("a", "1", "b", "2")...)
	want := model{"a": "1", "b": "2"}
	most := strings.Repeat("x", api.MaxRecord-64)
	full := []Pair{{Key: "a", Value: "9"}, gone("b"), {Value: most}}
	long := append(slices.Clone(full), Pair{Value: most + "x"})
	checkErr(t, "no space", s.Apply(full...), api.ErrFull)
	checkErr(t, "too long, no space", s.Apply(long...), api.ErrRecord)
	check(t, "refused", s, d, want)
	d.Cut(0)
	d.Flush()
	checkErr(t, "too long, no space, no power", s.Apply(long...), api.ErrRecord)
	checkErr(t, "no space, no power", s.Apply(full...), api.ErrFull)
	if s.Down() || !want.like(s) {
		t.Errorf("refused without power: down %t, keys %q", s.Down(), s.Keys(""))
	}
	checkErr(t, "no power", s.Apply(full[:2]...), api.ErrDiskDead)
	for _, pairs := range [][]Pair{long, full, full[:2], nil} {
		checkErr(t, "down", s.Apply(pairs...), api.ErrDiskDead)
	}
	if !s.Down() || !want.like(s) {
		t.Errorf("no power: down %t, keys %q", s.Down(), s.Keys(""))
	}
}

// P5.1: a store that is down stays so when power returns, and writes nothing;
// what it tells is what it told before the call that found no power.
func TestDown(t *testing.T) {
	before := model{"a": "1", "b": "2"}
	for _, fail := range []func(*Store) api.Errno{
		func(s *Store) api.Errno { return s.Apply(gone("a"), Pair{Key: "c", Value: "3"}) },
		func(s *Store) api.Errno { return s.Apply(set("c", strings.Repeat("3", 3000))...) },
		(*Store).Compact,
	} {
		d := disk.New(64, 128)
		s := open(t, d)
		mustApply(t, s, set("a", "1", "b", "2")...)
		if s.Down() {
			t.Error("down at first")
		}
		d.Cut(0)
		checkErr(t, "no power", fail(s), api.ErrDiskDead)
		d.Crash(0, -1, 0)
		d.Cut(0)
		checkErr(t, "Apply", s.Apply(set("d", "4")...), api.ErrDiskDead)
		checkErr(t, "Apply of none", s.Apply(), api.ErrDiskDead)
		checkErr(t, "Compact", s.Compact(), api.ErrDiskDead)
		if !s.Down() || !before.like(s) || d.Dead() {
			t.Errorf("down %t, keys %q, disk touched %t", s.Down(), s.Keys(""), d.Dead())
		}
		d.Crash(0, -1, 0)
		o := open(t, d)
		mustApply(t, o, gone("b"))
		check(t, "opened again", o, d, before.with(gone("b")))
	}
}

// P5.1, P5.4: random calls on random disks, against a map.
func TestAgainstMap(t *testing.T) {
	r := rand.New(rand.NewSource(3))
	for range 100 {
		d := disk.New(16+r.Intn(80), 128+r.Intn(200))
		s, m := open(t, d), model{}
		length := 1 + r.Intn(300)
		for range 80 {
			pairs := randomPairs(r, 6, length)
			switch e := s.Apply(pairs...); e {
			case api.OK:
				m = m.with(pairs...)
			case api.ErrFull:
			default:
				t.Fatalf("error %d", e)
			}
			if r.Intn(10) == 0 {
				checkErr(t, "Compact", s.Compact(), api.OK)
			}
			if r.Intn(4) == 0 {
				d.Crash(r.Uint64(), -1, 0)
			}
			if r.Intn(4) == 0 {
				s = open(t, d)
			}
			check(t, "a step", s, d, m)
			if t.Failed() {
				return
			}
		}
	}
}

// What holds everywhere: the pairs, and the room behind them, stay as they were,
// and what happens to them later doesn't show.
func TestArguments(t *testing.T) {
	d := disk.New(64, 128)
	s := open(t, d)
	pairs := append(make([]Pair, 0, 8), set("b", "1", "a", "2", "b", "3")...)
	same := slices.Clone(pairs[:8])
	mustApply(t, s, pairs...)
	checkErr(t, "no space", s.Apply(append(pairs, Pair{Value: strings.Repeat("x", 1<<15)})...), api.ErrFull)
	pairs[:4][3] = Pair{}
	if !slices.Equal(pairs[:8], same) {
		t.Errorf("arguments have been changed: %v", pairs[:8])
	}
	pairs[0], pairs[1], pairs[2] = Pair{}, Pair{}, Pair{}
	check(t, "arguments changed later", s, d, model{"a": "2", "b": "3"})
}

// What holds everywhere: the keys returned are a new list.
func TestResults(t *testing.T) {
	s := open(t, disk.New(16, 128))
	mustApply(t, s, set("a", "1", "b", "2")...)
	keys := s.Keys("")
	keys[0] = "changed"
	if got := s.Keys(""); !slices.Equal(got, []string{"a", "b"}) {
		t.Errorf("Keys: %q", got)
	}
}

// What holds everywhere: the same calls lead to the same bytes on the disk.
func TestSameBytes(t *testing.T) {
	var first []byte
	for i := range 20 {
		d := disk.New(40, 128)
		s := open(t, d)
		r := rand.New(rand.NewSource(4))
		for range 30 {
			s.Apply(randomPairs(r, 8, 100)...)
		}
		checkErr(t, "Compact", s.Compact(), api.OK)
		var all []byte
		for n := range d.Sectors() {
			b, _ := d.Read(n)
			all = append(all, b...)
		}
		if i == 0 {
			first = all
		} else if !slices.Equal(all, first) {
			t.Fatalf("the disk of life %d differs", i)
		}
	}
}
