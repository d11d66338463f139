package code

import (
	"bytes"
	"math"

	"augur/api"
)

// A number of 64 bits has at most ten bytes, the last of which holds its
// highest bit alone.
const (
	maxShift    = 63
	maxLastByte = 1
)

// Reader decodes values, one after another.
type Reader struct {
	rest   []byte
	failed bool
}

// undecodable is what the unexported methods panic with where they cannot
// decode: a summary has many parts, each of which may fail, and none of them has
// to look after the failures of the others. The exported methods catch it.
type undecodable struct{}

// NewReader returns a Reader of a copy of b: what happens to b later must not
// show.
func NewReader(b []byte) *Reader {
	return &Reader{rest: bytes.Clone(b)}
}

// Num decodes a number.
func (r *Reader) Num() uint64 {
	return attempt(r, r.num)
}

// Int decodes a signed number.
func (r *Reader) Int() int64 {
	return attempt(r, r.signed)
}

// Text decodes a string.
func (r *Reader) Text() string {
	return attempt(r, r.text)
}

// Bool decodes a boolean.
func (r *Reader) Bool() bool {
	return attempt(r, r.truth)
}

// Summary decodes a summary.
func (r *Reader) Summary() api.Summary {
	return attempt(r, r.summary)
}

// Done returns OK if every byte was decoded and no call failed.
func (r *Reader) Done() api.Errno {
	if r.failed || len(r.rest) > 0 {
		return api.ErrCode
	}
	return api.OK
}

// attempt returns what decode returns, or the zero value if it cannot decode,
// now or in an earlier call.
func attempt[T any](r *Reader, decode func() T) (v T) {
	if r.failed {
		return v
	}
	defer func() {
		// v is still zero then: decode has not returned.
		if recover() != nil {
			r.failed = true
		}
	}()
	return decode()
}

// need panics unless ok holds.
func need(ok bool) {
	if !ok {
		panic(undecodable{})
	}
}

func (r *Reader) next() byte {
	need(len(r.rest) > 0)
	b := r.rest[0]
	r.rest = r.rest[1:]
	return b
}

func (r *Reader) num() uint64 {
	var n uint64
	for shift := 0; ; shift += bitsOfByte {
		b := r.next()
		need(shift < maxShift || b <= maxLastByte)
		n |= uint64(b&^moreBit) << shift
		if b < moreBit {
			// A last byte 0 would be a second encoding of a shorter number.
			need(b != 0 || shift == 0)
			return n
		}
	}
}

// signed undoes fold.
func (r *Reader) signed() int64 {
	n := r.num()
	if n&1 == 1 {
		return ^int64(n >> 1)
	}
	return int64(n >> 1)
}

// count decodes a number of things that take at least a byte each. It must be
// compared ahead of its conversion, which a great number would not survive.
func (r *Reader) count() int {
	n := r.num()
	need(n <= uint64(len(r.rest)))
	return int(n)
}

func (r *Reader) text() string {
	n := r.count()
	s := string(r.rest[:n])
	r.rest = r.rest[n:]
	return s
}

func (r *Reader) truth() bool {
	b := r.next()
	need(b <= 1)
	return b == 1
}

// summary decodes the parts in the order in which they stand in the literal:
// here as in the others below, it must be the order of the bytes.
func (r *Reader) summary() api.Summary {
	return api.Summary{
		Alarms: r.alarms(),
		Ends:   r.truth(),
		Ret:    r.interval(),
		Mod:    r.cells(),
	}
}

// alarms grows its list alarm by alarm, since the bytes may hold far fewer
// alarms than their count says.
func (r *Reader) alarms() []api.Alarm {
	var alarms []api.Alarm
	for range r.count() {
		alarms = append(alarms, api.Alarm{At: r.small(), Kind: r.small()})
	}
	return alarms
}

// small decodes a signed number of at most 32 bits.
func (r *Reader) small() int {
	n := r.signed()
	need(math.MinInt32 <= n && n <= math.MaxInt32)
	return int(n)
}

func (r *Reader) interval() api.Ival {
	if !r.truth() {
		return api.Ival{}
	}
	return api.Ival{Some: true, Lo: r.signed(), Hi: r.signed()}
}

func (r *Reader) cells() []api.Named {
	var cells []api.Named
	for range r.count() {
		cells = append(cells, api.Named{Name: r.text(), V: r.interval()})
	}
	return cells
}
