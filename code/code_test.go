package code

import (
	"bytes"
	"encoding/binary"
	"math"
	"math/rand"
	"reflect"
	"strings"
	"testing"

	"augur/api"
)

// written returns what a new Writer holds after the calls of write.
func written(write func(w *Writer)) []byte {
	w := NewWriter()
	write(w)
	return w.Bytes()
}

func check(t *testing.T, what string, got, want any) {
	t.Helper()
	if !reflect.DeepEqual(got, want) {
		t.Errorf("%s: %v, want %v", what, got, want)
	}
}

func checkBytes(t *testing.T, what string, got, want []byte) {
	t.Helper()
	if !bytes.Equal(got, want) {
		t.Errorf("%s: % x, want % x", what, got, want)
	}
}

func numbers(lo, hi int64) api.Ival { return api.Ival{Some: true, Lo: lo, Hi: hi} }

// example is the summary of the document, and exampleBytes its encoding.
func example() api.Summary {
	return api.Summary{
		Alarms: []api.Alarm{{At: -1, Kind: 2}, {At: 300, Kind: 0}},
		Ends:   true,
		Ret:    numbers(-2, 5),
		Mod:    []api.Named{{Name: "c", V: numbers(0, 0)}, {Name: "dd"}},
	}
}

func exampleBytes() []byte {
	return []byte{2, 1, 4, 0xd8, 4, 0, 1, 1, 3, 10, 2, 1, 'c', 1, 0, 0, 2, 'd', 'd', 0}
}

// zeroSummaryBytes is the encoding of a summary without anything.
func zeroSummaryBytes() []byte { return []byte{0, 0, 0, 0} }

// edges are the numbers at which a further byte begins, and their neighbours.
func edges() []uint64 {
	all := []uint64{0, 1, 2, 300, math.MaxUint64, math.MaxUint64 - 1}
	for bit := range 64 {
		n := uint64(1) << bit
		all = append(all, n-1, n, n+1)
	}
	return all
}

func signedEdges() []int64 {
	var all []int64
	for _, n := range edges() {
		all = append(all, int64(n), -int64(n))
	}
	return all
}

// callKinds are the methods of a Reader that decode; each tells whether the
// zero value was returned.
var callKinds = []struct {
	name   string
	isZero func(r *Reader) bool
}{
	{"Num", func(r *Reader) bool { return r.Num() == 0 }},
	{"Int", func(r *Reader) bool { return r.Int() == 0 }},
	{"Text", func(r *Reader) bool { return r.Text() == "" }},
	{"Bool", func(r *Reader) bool { return !r.Bool() }},
	{"Summary", func(r *Reader) bool { return reflect.DeepEqual(r.Summary(), api.Summary{}) }},
}

// checkFails checks that the call of that name fails for b, and that the Reader
// decodes nothing from then on.
func checkFails(t *testing.T, name string, b []byte) {
	t.Helper()
	for _, first := range callKinds {
		if first.name != name {
			continue
		}
		r := NewReader(b)
		if !first.isZero(r) || r.Done() != api.ErrCode {
			t.Errorf("%s of % x does not fail", name, b)
		}
		for range 2 {
			for _, later := range callKinds {
				if !later.isZero(r) || r.Done() != api.ErrCode {
					t.Errorf("%s of % x, then %s: not zero, or no error", name, b, later.name)
				}
			}
		}
	}
}

// P2.1: a new Writer has no bytes, and calls without arguments append none.
func TestNothingWritten(t *testing.T) {
	checkBytes(t, "NewWriter", NewWriter().Bytes(), nil)
	got := written(func(w *Writer) {
		w.Num()
		w.Int()
		w.Text()
		w.Bool()
		w.Summary()
		w.Num([]uint64{}...)
	})
	checkBytes(t, "no arguments", got, nil)
}

// P2.1: values of Num.
func TestWriteNum(t *testing.T) {
	cases := []struct {
		n    uint64
		want []byte
	}{
		{0, []byte{0}},
		{1, []byte{1}},
		{127, []byte{0x7f}},
		{128, []byte{0x80, 1}},
		{255, []byte{0xff, 1}},
		{256, []byte{0x80, 2}},
		{300, []byte{0xac, 2}},
		{1<<14 - 1, []byte{0xff, 0x7f}},
		{1 << 14, []byte{0x80, 0x80, 1}},
		{1 << 62, []byte{0x80, 0x80, 0x80, 0x80, 0x80, 0x80, 0x80, 0x80, 0x40}},
		{1<<63 - 1, []byte{0xff, 0xff, 0xff, 0xff, 0xff, 0xff, 0xff, 0xff, 0x7f}},
		{1 << 63, []byte{0x80, 0x80, 0x80, 0x80, 0x80, 0x80, 0x80, 0x80, 0x80, 1}},
		{math.MaxUint64, []byte{0xff, 0xff, 0xff, 0xff, 0xff, 0xff, 0xff, 0xff, 0xff, 1}},
	}
	for _, c := range cases {
		got := written(func(w *Writer) { w.Num(c.n) })
		checkBytes(t, "Num", got, c.want)
	}
	for _, n := range edges() {
		got := written(func(w *Writer) { w.Num(n) })
		checkBytes(t, "Num at an edge", got, binary.AppendUvarint(nil, n))
	}
}

// P2.1: values of Int.
func TestWriteInt(t *testing.T) {
	for i, n := range []int64{0, -1, 1, -2, 2, -3, 3} {
		got := written(func(w *Writer) { w.Int(n) })
		checkBytes(t, "Int", got, []byte{byte(i)})
	}
	cases := []struct {
		n    int64
		want uint64
	}{
		{63, 126},
		{-64, 127},
		{64, 128},
		{-65, 129},
		{300, 600},
		{math.MaxInt32, 1<<32 - 2},
		{math.MinInt32, 1<<32 - 1},
		{math.MaxInt64, math.MaxUint64 - 1},
		{math.MinInt64, math.MaxUint64},
		{math.MinInt64 + 1, math.MaxUint64 - 2},
	}
	for _, c := range cases {
		got := written(func(w *Writer) { w.Int(c.n) })
		checkBytes(t, "Int", got, binary.AppendUvarint(nil, c.want))
	}
	for _, n := range signedEdges() {
		got := written(func(w *Writer) { w.Int(n) })
		checkBytes(t, "Int at an edge", got, binary.AppendVarint(nil, n))
	}
}

// P2.1: values of Text; its length counts bytes.
func TestWriteText(t *testing.T) {
	cases := []struct {
		s    string
		want []byte
	}{
		{"", []byte{0}},
		{"a", []byte{1, 'a'}},
		{"abc", []byte{3, 'a', 'b', 'c'}},
		{"\x00", []byte{1, 0}},
		{"\u00e9", []byte{2, 0xc3, 0xa9}},
		{"\xff\x80", []byte{2, 0xff, 0x80}},
		{strings.Repeat("x", 127), append([]byte{0x7f}, strings.Repeat("x", 127)...)},
		{strings.Repeat("x", 128), append([]byte{0x80, 1}, strings.Repeat("x", 128)...)},
	}
	for _, c := range cases {
		got := written(func(w *Writer) { w.Text(c.s) })
		checkBytes(t, "Text", got, c.want)
	}
}

// P2.1: values of Bool.
func TestWriteBool(t *testing.T) {
	checkBytes(t, "Bool false", written(func(w *Writer) { w.Bool(false) }), []byte{0})
	checkBytes(t, "Bool true", written(func(w *Writer) { w.Bool(true) }), []byte{1})
}

// P2.1: values of Summary.
func TestWriteSummary(t *testing.T) {
	cases := []struct {
		name string
		s    api.Summary
		want []byte
	}{
		{"the document's example", example(), exampleBytes()},
		{"nothing", api.Summary{}, zeroSummaryBytes()},
		{"empty lists", api.Summary{Alarms: []api.Alarm{}, Mod: []api.Named{}}, zeroSummaryBytes()},
		{"it ends", api.Summary{Ends: true}, []byte{0, 1, 0, 0}},
		{"an interval without numbers, with bounds", api.Summary{Ret: api.Ival{Lo: 3, Hi: 4}}, zeroSummaryBytes()},
		{"an interval of one number", api.Summary{Ret: numbers(0, 0)}, []byte{0, 0, 1, 0, 0, 0}},
		{"an interval that is upside down", api.Summary{Ret: numbers(1, -1)}, []byte{0, 0, 1, 2, 1, 0}},
		{"an alarm", api.Summary{Alarms: []api.Alarm{{At: 5, Kind: -3}}}, []byte{1, 10, 5, 0, 0, 0}},
		{"a cell without a name", api.Summary{Mod: []api.Named{{}}}, []byte{0, 0, 0, 1, 0, 0}},
		{"a cell without numbers, with bounds", api.Summary{Mod: []api.Named{{Name: "z", V: api.Ival{Lo: 1, Hi: 2}}}}, []byte{0, 0, 0, 1, 1, 'z', 0}},
		{"cells and alarms out of order", api.Summary{
			Alarms: []api.Alarm{{At: 2}, {At: 1}, {At: 2}},
			Mod:    []api.Named{{Name: "b"}, {Name: "a"}, {Name: "b"}},
		}, []byte{3, 4, 0, 2, 0, 4, 0, 0, 0, 3, 1, 'b', 0, 1, 'a', 0, 1, 'b', 0}},
	}
	for _, c := range cases {
		got := written(func(w *Writer) { w.Summary(c.s) })
		checkBytes(t, "Summary, "+c.name, got, c.want)
	}
	greatest := written(func(w *Writer) { w.Summary(api.Summary{Ret: numbers(math.MinInt64, math.MaxInt64)}) })
	want := append([]byte{0, 0, 1}, binary.AppendVarint(nil, math.MinInt64)...)
	want = append(binary.AppendVarint(want, math.MaxInt64), 0)
	checkBytes(t, "Summary, the whole interval", greatest, want)
}

// P2.1: several arguments are appended in order, as several calls append them.
func TestWriteInOrder(t *testing.T) {
	got := written(func(w *Writer) {
		w.Num(300, 0, 7)
		w.Int(-1, 2)
		w.Text("b", "", "a")
		w.Bool(true, false, true)
		w.Summary(api.Summary{Ends: true}, api.Summary{})
		w.Num(1)
	})
	want := []byte{0xac, 2, 0, 7, 1, 4, 1, 'b', 0, 1, 'a', 1, 0, 1, 0, 1, 0, 0, 0, 0, 0, 0, 1}
	checkBytes(t, "several arguments", got, want)
	one := written(func(w *Writer) {
		w.Num(300)
		w.Num(0)
		w.Num(7)
		w.Int(-1)
		w.Int(2)
		w.Text("b")
		w.Text("")
		w.Text("a")
		w.Bool(true)
		w.Bool(false)
		w.Bool(true)
		w.Summary(api.Summary{Ends: true})
		w.Summary(api.Summary{})
		w.Num(1)
	})
	checkBytes(t, "one argument a call", one, want)
}

// P2.1: what Bytes returned is not changed by later calls, nor the Writer by
// changes of it.
func TestBytesIsACopy(t *testing.T) {
	w := NewWriter()
	w.Num(1, 2, 3)
	first, second := w.Bytes(), w.Bytes()
	first[0] = 99
	_ = append(first[:1], 98, 97, 96)
	checkBytes(t, "another result", second, []byte{1, 2, 3})
	checkBytes(t, "Bytes after a change", w.Bytes(), []byte{1, 2, 3})
	_ = append(second, 95)
	w.Num(4)
	checkBytes(t, "Bytes later", w.Bytes(), []byte{1, 2, 3, 4})
	checkBytes(t, "an earlier result", second, []byte{1, 2, 3})
	other := NewWriter()
	other.Num(5)
	checkBytes(t, "Bytes beside another Writer", w.Bytes(), []byte{1, 2, 3, 4})
}

// P2.2: values of Num, and the number of bytes that it takes.
func TestReadNum(t *testing.T) {
	for _, n := range edges() {
		r := NewReader(append(binary.AppendUvarint(nil, n), 9))
		check(t, "Num", r.Num(), n)
		check(t, "Done ahead of the last byte", r.Done(), api.ErrCode)
		check(t, "Num behind it", r.Num(), uint64(9))
		check(t, "Done", r.Done(), api.OK)
	}
}

// P2.2: values of Int.
func TestReadInt(t *testing.T) {
	for _, n := range signedEdges() {
		r := NewReader(binary.AppendVarint(nil, n))
		check(t, "Int", r.Int(), n)
		check(t, "Done", r.Done(), api.OK)
	}
	r := NewReader([]byte{0, 1, 2, 3, 4, 5, 6})
	for _, want := range []int64{0, -1, 1, -2, 2, -3, 3} {
		check(t, "Int", r.Int(), want)
	}
	check(t, "Done", r.Done(), api.OK)
}

// wrongNumbers are bytes that are no number, and some that are none whatever
// follows them.
func wrongNumbers() [][]byte {
	whole := []byte{0xff, 0xff, 0xff, 0xff, 0xff, 0xff, 0xff, 0xff, 0xff, 1}
	zeros := bytes.Repeat([]byte{0x80}, 10)
	all := [][]byte{
		nil,
		{},
		{0x80, 0},
		{0x81, 0},
		{0xff, 0},
		{0x80, 0x80, 0},
		append(zeros[:9:9], 0),
		append(zeros[:9:9], 2),
		append(zeros[:9:9], 3),
		append(zeros[:9:9], 0x7f),
		append(whole[:9:9], 0),
		append(whole[:9:9], 2),
		append(zeros[:10:10], 0),
		append(zeros[:10:10], 1),
		append(whole[:9:9], 0x81, 0),
		append(whole[:9:9], 0x81, 1),
		append(zeros[:10:10], 0x80, 1),
		bytes.Repeat([]byte{0xff}, 30),
		{0x80, 0, 1, 1},
		append(zeros[:9:9], 2, 1, 1, 1),
	}
	for n := 1; n < 10; n++ {
		all = append(all, whole[:n], zeros[:n])
	}
	return all
}

// P2.2: where Num fails, and with it all that begins with a number.
func TestReadWrongNumbers(t *testing.T) {
	for _, b := range wrongNumbers() {
		checkFails(t, "Num", b)
		checkFails(t, "Int", b)
		checkFails(t, "Text", b)
		checkFails(t, "Summary", b)
	}
}

// P2.2: values of Text.
func TestReadText(t *testing.T) {
	long := strings.Repeat("long", 1000)
	for _, s := range []string{"", "a", "ab", "\x00", "\xff\x80", long[:127], long[:128], long} {
		b := binary.AppendUvarint(nil, uint64(len(s)))
		r := NewReader(append(append(b, s...), 5))
		check(t, "Text", r.Text(), s)
		check(t, "Num behind it", r.Num(), uint64(5))
		check(t, "Done", r.Done(), api.OK)
	}
}

// P2.2: where Text fails: more bytes asked for than there are.
func TestReadWrongTexts(t *testing.T) {
	for _, b := range [][]byte{{2, 'a'}, {1}, {5, 'a', 'b', 'c', 'd'}, {0x80, 1, 'a'}} {
		checkFails(t, "Text", b)
	}
	for _, n := range []uint64{4, 1 << 31, 1 << 32, 1 << 62, 1<<63 - 1, 1 << 63, math.MaxUint64} {
		checkFails(t, "Text", append(binary.AppendUvarint(nil, n), 1, 1, 1))
	}
}

// P2.2: values of Bool, and where it fails.
func TestReadBool(t *testing.T) {
	r := NewReader([]byte{1, 0, 1})
	check(t, "Bool", []bool{r.Bool(), r.Bool(), r.Bool()}, []bool{true, false, true})
	check(t, "Done", r.Done(), api.OK)
	checkFails(t, "Bool", nil)
	for n := 2; n < 256; n++ {
		checkFails(t, "Bool", []byte{byte(n)})
		checkFails(t, "Bool", []byte{byte(n), 1, 1, 1, 1})
	}
}

// P2.2: values of Summary.
func TestReadSummary(t *testing.T) {
	r := NewReader(append(append(exampleBytes(), zeroSummaryBytes()...), 6))
	check(t, "Summary", r.Summary(), example())
	check(t, "Summary of nothing", r.Summary(), api.Summary{})
	check(t, "Int behind it", r.Int(), int64(3))
	check(t, "Done", r.Done(), api.OK)
	r = NewReader([]byte{0, 0, 1, 2, 1, 0})
	check(t, "an interval that is upside down", r.Summary(), api.Summary{Ret: numbers(1, -1)})
	check(t, "Done", r.Done(), api.OK)
}

// P2.2: Summary fails if the bytes are cut off anywhere.
func TestReadCutSummaries(t *testing.T) {
	for n := range len(exampleBytes()) {
		checkFails(t, "Summary", exampleBytes()[:n])
	}
	for n := range len(zeroSummaryBytes()) {
		checkFails(t, "Summary", zeroSummaryBytes()[:n])
	}
}

// P2.2: Summary fails if one of its parts does, or if a list is longer than
// the bytes that are left.
func TestReadWrongSummaries(t *testing.T) {
	cases := [][]byte{
		{0x80, 0, 0, 0, 0},
		{5, 2, 2, 0, 0},
		{2, 2, 2, 0, 0, 0},
		{1, 0x80, 0, 2, 0, 0, 0},
		{1, 2, 0x80, 0, 0, 0, 0},
		{0, 2, 0, 0},
		{0, 0x81, 0, 0},
		{0, 0, 2, 2, 2, 0},
		{0, 0, 1, 0x80, 0, 2, 0},
		{0, 0, 1, 2, 0x80, 0, 0},
		{0, 0, 0, 0x80, 0},
		{0, 0, 0, 1},
		{0, 0, 0, 3, 0, 0},
		{0, 0, 0, 1, 0x81, 0, 'a', 0},
		{0, 0, 0, 1, 2, 'a'},
		{0, 0, 0, 1, 1, 'a', 2},
		{0, 0, 0, 1, 1, 'a', 1, 0x80, 0, 0},
		{0, 0, 0, 1, 1, 'a', 1, 0},
		{0, 0, 0, 2, 1, 'a', 0},
	}
	for _, b := range cases {
		checkFails(t, "Summary", b)
	}
	for _, n := range []uint64{100, 1 << 31, 1 << 40, 1 << 62, 1<<63 - 1, 1 << 63, math.MaxUint64} {
		checkFails(t, "Summary", append(binary.AppendUvarint(nil, n), make([]byte, 99)...))
		checkFails(t, "Summary", append(binary.AppendUvarint([]byte{0, 0, 0}, n), make([]byte, 99)...))
		// As many bytes as a summary needs whose list is taken for an empty one.
		checkFails(t, "Summary", append(binary.AppendUvarint(nil, n), 0, 0, 0))
		checkFails(t, "Summary", binary.AppendUvarint([]byte{0, 0, 0}, n))
	}
}

// P2.2: an At or a Kind beyond 32 bits makes Summary fail, one within does not.
func TestReadAlarmBounds(t *testing.T) {
	for _, n := range []int{math.MinInt32, math.MinInt32 + 1, math.MaxInt32 - 1, math.MaxInt32} {
		for _, a := range []api.Alarm{{At: n}, {Kind: n}, {At: n, Kind: n}} {
			s := api.Summary{Alarms: []api.Alarm{{At: 1, Kind: 1}, a}}
			r := NewReader(written(func(w *Writer) { w.Summary(s) }))
			check(t, "Summary", r.Summary(), s)
			check(t, "Done", r.Done(), api.OK)
		}
	}
	for _, n := range []int{math.MinInt64, math.MinInt32 - 1, math.MaxInt32 + 1, 1 << 32, 1<<32 + 1, math.MaxInt64} {
		for _, a := range []api.Alarm{{At: n}, {Kind: n}, {At: n, Kind: n}} {
			s := api.Summary{Alarms: []api.Alarm{{At: 1, Kind: 1}, a}}
			checkFails(t, "Summary", written(func(w *Writer) { w.Summary(s) }))
		}
	}
}

// P2.2: a failure in the middle leaves what was decoded ahead of it, and
// nothing after it, though bytes that could be decoded follow.
func TestReadAfterFailure(t *testing.T) {
	for _, call := range callKinds {
		r := NewReader([]byte{7, 2, 1, 1, 1, 1, 1, 1})
		check(t, "Num", r.Num(), uint64(7))
		check(t, "Bool of 2", r.Bool(), false)
		if !call.isZero(r) || r.Done() != api.ErrCode {
			t.Errorf("%s after a failure: not zero, or no error", call.name)
		}
	}
	r := NewReader([]byte{2})
	check(t, "Bool of 2", r.Bool(), false)
	check(t, "Num after it", r.Num(), uint64(0))
	check(t, "Done", r.Done(), api.ErrCode)
	other := NewReader([]byte{2})
	check(t, "Num of another Reader", other.Num(), uint64(2))
	check(t, "Done of another Reader", other.Done(), api.OK)
}

// P2.2: Done, which changes nothing.
func TestDone(t *testing.T) {
	check(t, "no bytes", NewReader(nil).Done(), api.OK)
	check(t, "no bytes", NewReader([]byte{}).Done(), api.OK)
	r := NewReader([]byte{7, 8})
	for range 3 {
		check(t, "nothing decoded", r.Done(), api.ErrCode)
	}
	check(t, "Num", r.Num(), uint64(7))
	for range 3 {
		check(t, "one byte left", r.Done(), api.ErrCode)
	}
	check(t, "Num", r.Num(), uint64(8))
	for range 3 {
		check(t, "no byte left", r.Done(), api.OK)
	}
	check(t, "Num", r.Num(), uint64(0))
	for range 3 {
		check(t, "a failed call", r.Done(), api.ErrCode)
	}
}

// P2.2: a Reader does not depend on what becomes of its argument, which it
// leaves as it was, nor do its results depend on one another.
func TestReaderIsACopy(t *testing.T) {
	backing := append(append(exampleBytes(), exampleBytes()...), 42, 43)
	b := backing[:len(backing)-2]
	r := NewReader(b)
	b[0], b[12] = 9, 'x'
	first := r.Summary()
	check(t, "Summary after a change", first, example())
	first.Alarms[0].At = 77
	first.Mod[0].Name = "changed"
	_ = append(first.Alarms[:1], api.Alarm{At: 78})
	check(t, "the next Summary", r.Summary(), example())
	check(t, "Done", r.Done(), api.OK)
	want := append(append(exampleBytes(), exampleBytes()...), 42, 43)
	want[0], want[12] = 9, 'x'
	checkBytes(t, "the argument and its spare capacity", backing, want)
}

// P2.1: a Writer neither changes its arguments nor keeps them.
func TestWriterLeavesArguments(t *testing.T) {
	alarms := append(example().Alarms, api.Alarm{At: 8}, api.Alarm{At: 9})
	mod := append(example().Mod, api.Named{Name: "spare"})
	s := example()
	s.Alarms, s.Mod = alarms[:2], mod[:2]
	w := NewWriter()
	w.Summary(s)
	check(t, "the alarms", alarms, append(example().Alarms, api.Alarm{At: 8}, api.Alarm{At: 9}))
	check(t, "the cells", mod, append(example().Mod, api.Named{Name: "spare"}))
	alarms[0].At, mod[0].Name = 55, "changed"
	checkBytes(t, "Bytes after a change", w.Bytes(), exampleBytes())
	nums := []uint64{1, 2, 3, 4}
	w = NewWriter()
	w.Num(nums[:2]...)
	check(t, "the numbers", nums, []uint64{1, 2, 3, 4})
}

// randomSummary gives a summary whose numbers have any number of bits.
func randomSummary(r *rand.Rand) api.Summary {
	wide := func() int64 { return int64(r.Uint64()) >> r.Intn(64) }
	ival := func() api.Ival {
		if r.Intn(3) == 0 {
			return api.Ival{}
		}
		return numbers(wide(), wide())
	}
	s := api.Summary{Ends: r.Intn(2) == 0, Ret: ival()}
	for range r.Intn(4) {
		s.Alarms = append(s.Alarms, api.Alarm{At: int(int32(wide())), Kind: int(int32(wide()))})
	}
	for range r.Intn(4) {
		name := make([]byte, r.Intn(5))
		r.Read(name)
		s.Mod = append(s.Mod, api.Named{Name: string(name), V: ival()})
	}
	return s
}

// P2.3: decoding returns what was encoded, whatever stands beside it.
func TestRoundTrip(t *testing.T) {
	r := rand.New(rand.NewSource(1))
	for range 2000 {
		w := NewWriter()
		var checks []func(d *Reader) (got, want any)
		for range r.Intn(8) {
			switch r.Intn(5) {
			case 0:
				n := r.Uint64() >> r.Intn(64)
				w.Num(n)
				checks = append(checks, func(d *Reader) (any, any) { return d.Num(), n })
			case 1:
				n := int64(r.Uint64()) >> r.Intn(64)
				w.Int(n)
				checks = append(checks, func(d *Reader) (any, any) { return d.Int(), n })
			case 2:
				s := strings.Repeat("\x80b\xff", r.Intn(70))
				w.Text(s)
				checks = append(checks, func(d *Reader) (any, any) { return d.Text(), s })
			case 3:
				b := r.Intn(2) == 0
				w.Bool(b)
				checks = append(checks, func(d *Reader) (any, any) { return d.Bool(), b })
			default:
				s := randomSummary(r)
				w.Summary(s)
				checks = append(checks, func(d *Reader) (any, any) { return d.Summary(), s })
			}
		}
		d := NewReader(w.Bytes())
		for _, c := range checks {
			got, want := c(d)
			check(t, "decoded", got, want)
		}
		check(t, "Done", d.Done(), api.OK)
	}
}

// checkOnlyEncoding checks that b, if it can be decoded as a value, is what
// this value is encoded as; it tells for how many kinds of values it can.
func checkOnlyEncoding(t *testing.T, b []byte) int {
	t.Helper()
	kinds := []func(r *Reader, w *Writer){
		func(r *Reader, w *Writer) { w.Num(r.Num()) },
		func(r *Reader, w *Writer) { w.Int(r.Int()) },
		func(r *Reader, w *Writer) { w.Text(r.Text()) },
		func(r *Reader, w *Writer) { w.Bool(r.Bool()) },
		func(r *Reader, w *Writer) { w.Summary(r.Summary()) },
	}
	decoded := 0
	for i, again := range kinds {
		r, w := NewReader(b), NewWriter()
		again(r, w)
		if r.Done() != api.OK {
			continue
		}
		decoded++
		if !bytes.Equal(w.Bytes(), b) {
			t.Errorf("kind %d: % x is decoded, but its value encoded as % x", i, b, w.Bytes())
		}
	}
	return decoded
}

// P2.3: every short byte string is the encoding of what it is decoded as.
func TestOnlyEncodingShort(t *testing.T) {
	decoded := checkOnlyEncoding(t, nil)
	for a := range 256 {
		decoded += checkOnlyEncoding(t, []byte{byte(a)})
		for b := range 256 {
			decoded += checkOnlyEncoding(t, []byte{byte(a), byte(b)})
		}
	}
	signs := []byte{0, 1, 2, 3, 0x7f, 0x80, 0x81}
	for length := 3; length <= 6; length++ {
		total := 1
		for range length {
			total *= len(signs)
		}
		for i := range total {
			b := make([]byte, length)
			for j := range b {
				b[j] = signs[i%len(signs)]
				i /= len(signs)
			}
			decoded += checkOnlyEncoding(t, b)
		}
	}
	if decoded < 2*128+2*127*128 {
		t.Errorf("only %d strings were decoded", decoded)
	}
}

// P2.3: so is every long one; one byte of an encoding is changed, taken out or
// put in.
func TestOnlyEncodingChanged(t *testing.T) {
	r := rand.New(rand.NewSource(2))
	for range 20000 {
		b := written(func(w *Writer) { w.Summary(randomSummary(r)) })
		at := r.Intn(len(b))
		switch r.Intn(3) {
		case 0:
			b[at] = byte(r.Intn(256))
		case 1:
			b = append(b[:at], b[at+1:]...)
		default:
			b = append(b[:at], append([]byte{byte(r.Intn(4)) * 0x40}, b[at:]...)...)
		}
		checkOnlyEncoding(t, b)
	}
}

// P2.2: whatever the bytes are, every call ends without a panic, and a summary
// has no more parts than there are bytes.
func TestReadAnything(t *testing.T) {
	r := rand.New(rand.NewSource(3))
	for range 20000 {
		b := make([]byte, r.Intn(40))
		for i := range b {
			b[i] = byte(r.Intn(256)) >> r.Intn(8)
		}
		d := NewReader(b)
		for range 6 {
			if r.Intn(2) == 0 {
				callKinds[r.Intn(len(callKinds))].isZero(d)
			} else if s := d.Summary(); len(s.Alarms)+len(s.Mod) > len(b) {
				t.Fatalf("Summary of % x has %d parts", b, len(s.Alarms)+len(s.Mod))
			}
			d.Done()
		}
	}
}

// P2.2: a summary of many parts; the count of a list may have several bytes.
func TestManyParts(t *testing.T) {
	var s api.Summary
	for i := range 1000 {
		s.Alarms = append(s.Alarms, api.Alarm{At: i - 500, Kind: i * i})
		s.Mod = append(s.Mod, api.Named{Name: strings.Repeat("n", i%130), V: numbers(int64(-i), int64(i))})
	}
	r := NewReader(written(func(w *Writer) { w.Summary(s) }))
	check(t, "Summary", r.Summary(), s)
	check(t, "Done", r.Done(), api.OK)
}
