package sum

import (
	"bytes"
	"encoding/binary"
	"hash/crc32"
	"hash/fnv"
	"math/rand"
	"strings"
	"testing"
)

// divisions returns every way to divide s into parts that are not empty.
func divisions(s string) [][]string {
	if s == "" {
		return [][]string{nil}
	}
	var all [][]string
	for n := 1; n <= len(s); n++ {
		for _, rest := range divisions(s[n:]) {
			all = append(all, append([]string{s[:n]}, rest...))
		}
	}
	return all
}

func asBytes(parts []string) [][]byte {
	var all [][]byte
	for _, p := range parts {
		all = append(all, []byte(p))
	}
	return all
}

func allBytes() []byte {
	b := make([]byte, 256)
	for i := range b {
		b[i] = byte(i)
	}
	return b
}

// randomParts gives a list that the seed of r determines; some parts are empty.
func randomParts(r *rand.Rand) []string {
	parts := make([]string, r.Intn(6))
	for i := range parts {
		b := make([]byte, r.Intn(4)*r.Intn(200))
		r.Read(b)
		parts[i] = string(b)
	}
	return parts
}

// P1.1: values of Crc.
func TestCrcValues(t *testing.T) {
	cases := []struct {
		name  string
		parts [][]byte
		want  uint32
	}{
		{"no parts", nil, 0},
		{"a nil part", [][]byte{nil}, 0},
		{"an empty part", [][]byte{{}}, 0},
		{"empty parts", [][]byte{{}, nil, {}}, 0},
		{"the document's example", [][]byte{[]byte("123456789")}, 0xcbf43926},
		{"a zero byte", [][]byte{{0}}, 0xd202ef8d},
		{"four zero bytes", [][]byte{{0, 0, 0, 0}}, 0x2144df1c},
		{"four bytes ff", [][]byte{{255, 255, 255, 255}}, 0xffffffff},
		{"one letter", [][]byte{[]byte("a")}, 0xe8b7be43},
		{"three letters", [][]byte{[]byte("abc")}, 0x352441c2},
		{"a sentence", [][]byte{[]byte("The quick brown fox jumps over the lazy dog")}, 0x414fa339},
		{"every byte", [][]byte{allBytes()}, 0x29058c73},
	}
	for _, c := range cases {
		if got := Crc(c.parts...); got != c.want {
			t.Errorf("Crc, %s: %08x, want %08x", c.name, got, c.want)
		}
	}
}

// P1.1: the polynomial, apart from the table: each entry is worked out bit by bit.
func TestNibbleSums(t *testing.T) {
	for i, got := range nibbleSums {
		want := uint32(i)
		for range 4 {
			odd := want&1 == 1
			want >>= 1
			if odd {
				want ^= 0xedb88320
			}
		}
		if got != want {
			t.Errorf("entry %d: %08x, want %08x", i, got, want)
		}
	}
}

// P1.1: Crc of single bytes and of long parts, against another implementation.
func TestCrcAgainstLibrary(t *testing.T) {
	for i := range 256 {
		b := []byte{byte(i)}
		if got, want := Crc(b), crc32.ChecksumIEEE(b); got != want {
			t.Errorf("Crc of byte %d: %08x, want %08x", i, got, want)
		}
	}
	r := rand.New(rand.NewSource(1))
	for i := range 300 {
		parts := asBytes(randomParts(r))
		if got, want := Crc(parts...), crc32.ChecksumIEEE(bytes.Join(parts, nil)); got != want {
			t.Fatalf("Crc of list %d, %d parts: %08x, want %08x", i, len(parts), got, want)
		}
	}
	long := make([]byte, 1<<20)
	r.Read(long)
	if got, want := Crc(long), crc32.ChecksumIEEE(long); got != want {
		t.Errorf("Crc of %d bytes: %08x, want %08x", len(long), got, want)
	}
}

// P1.1: values of Print.
func TestPrintValues(t *testing.T) {
	cases := []struct {
		name  string
		parts []string
		want  uint64
	}{
		{"no parts", nil, 0xcbf29ce484222325},
		{"an empty part", []string{""}, 0x4d25767f9dce13f5},
		{"two empty parts", []string{"", ""}, 0xa8c7f832281a39c5},
		{"one letter", []string{"a"}, 0xe4b8cad92528d179},
		{"three letters", []string{"abc"}, 0x8b7b41fb1c252e54},
		{"two letters and one", []string{"ab", "c"}, 0x529cfe9f34ca7d78},
		{"one letter and two", []string{"a", "bc"}, 0xb3a0ab1306893330},
		{"an empty part ahead", []string{"", "abc"}, 0x5fb74c3a27e1d84},
		{"an empty part behind", []string{"abc", ""}, 0xd007fbc90e78ed94},
		{"bytes that are no text", []string{"\xff\xc3\x00"}, 0x55fe18f828fad8ca},
		{"a letter of two bytes", []string{"\u00e9"}, 0xc5aebdfa1f0cb297},
		{"a length of one byte", []string{strings.Repeat("x", 255)}, 0x5d1a5ba1332a6730},
		{"a length of two bytes", []string{strings.Repeat("x", 256)}, 0x8a150be50b68a0cc},
		{"a length of three bytes", []string{strings.Repeat("x", 65536)}, 0xcb8268d6e166154a},
	}
	for _, c := range cases {
		if got := Print(c.parts...); got != c.want {
			t.Errorf("Print, %s: %016x, want %016x", c.name, got, c.want)
		}
	}
}

// libraryPrint is Print by another implementation.
func libraryPrint(parts []string) uint64 {
	h := fnv.New64a()
	for _, p := range parts {
		h.Write(binary.BigEndian.AppendUint32(nil, uint32(len(p))))
		h.Write([]byte(p))
	}
	return h.Sum64()
}

// P1.1: Print of many lists and of a length of four bytes, against another implementation.
func TestPrintAgainstLibrary(t *testing.T) {
	r := rand.New(rand.NewSource(2))
	for i := range 300 {
		parts := randomParts(r)
		if got, want := Print(parts...), libraryPrint(parts); got != want {
			t.Fatalf("Print of list %d, %d parts: %016x, want %016x", i, len(parts), got, want)
		}
	}
	long := []string{strings.Repeat("long", 1<<22+1), "and more"}
	if got, want := Print(long...), libraryPrint(long); got != want {
		t.Errorf("Print of a part of %d bytes: %016x, want %016x", len(long[0]), got, want)
	}
}

// P1.2: Crc is the same however the bytes are divided.
func TestCrcDivided(t *testing.T) {
	const text = "123456789"
	for _, parts := range divisions(text) {
		if got := Crc(asBytes(parts)...); got != 0xcbf43926 {
			t.Fatalf("Crc of %q: %08x, want cbf43926", parts, got)
		}
	}
	for i := range len(text) + 1 {
		if got := Crc(nil, []byte(text[:i]), nil, []byte{}, []byte(text[i:]), nil); got != 0xcbf43926 {
			t.Errorf("Crc divided at %d, empty parts between: %08x, want cbf43926", i, got)
		}
	}
}

// P1.2: Print is another one for every division of the same bytes.
func TestPrintDivided(t *testing.T) {
	lists := divisions("12345678")
	for i := range 4 {
		list := make([]string, 4)
		list[i] = "12345678"
		lists = append(lists, list)
	}
	seen := map[uint64][]string{}
	for _, list := range lists {
		h := Print(list...)
		if other, ok := seen[h]; ok {
			t.Errorf("Print of %q and of %q: both %016x", list, other, h)
		}
		seen[h] = list
	}
	counts := map[uint64]int{}
	for n := range 9 {
		h := Print(make([]string, n)...)
		if other, ok := counts[h]; ok {
			t.Errorf("Print of %d and of %d empty parts: both %016x", n, other, h)
		}
		counts[h] = n
	}
}

// P1.1, P1.2: the order of the parts counts, for both.
func TestOrder(t *testing.T) {
	if Crc([]byte("ab"), []byte("c")) == Crc([]byte("c"), []byte("ab")) {
		t.Error("Crc does not tell ab, c from c, ab")
	}
	if Print("ab", "c") == Print("c", "ab") {
		t.Error("Print does not tell ab, c from c, ab")
	}
}

// What holds everywhere: arguments and their spare capacity stay as they were,
// and a call does not depend on an earlier one.
func TestArguments(t *testing.T) {
	backing := []byte("abcdefgh")
	parts := make([][]byte, 2, 4)
	parts[0], parts[1] = backing[:2], backing[2:4]
	texts := make([]string, 2, 4)
	texts[0], texts[1] = "ab", "cd"
	crc, print := Crc(parts...), Print(texts...)
	if Crc(parts...) != crc || Print(texts...) != print {
		t.Error("a second call answers otherwise")
	}
	if string(backing) != "abcdefgh" || string(parts[0]) != "ab" || string(parts[1]) != "cd" {
		t.Errorf("Crc has changed its parts: %q, %q", backing, parts)
	}
	if spare := parts[:4]; spare[2] != nil || spare[3] != nil {
		t.Errorf("Crc has written behind its parts: %q", spare)
	}
	if spare := texts[:4]; spare[0] != "ab" || spare[1] != "cd" || spare[2] != "" || spare[3] != "" {
		t.Errorf("Print has changed its parts: %q", spare)
	}
}
