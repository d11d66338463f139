// Package code encodes values as bytes and decodes them: see doc/02-code.md.
package code

import (
	"bytes"

	"augur/api"
)

// moreBit is set in every byte of a number but its last one; the bits below it
// hold the number.
const (
	moreBit    = 0x80
	bitsOfByte = 7
)

// Writer collects the encodings of values.
type Writer struct {
	written []byte
}

// NewWriter returns a Writer without bytes.
func NewWriter() *Writer {
	return &Writer{}
}

// Num appends numbers, the least significant seven bits of each first.
func (w *Writer) Num(n ...uint64) {
	for _, v := range n {
		for v >= moreBit {
			w.written = append(w.written, byte(v)|moreBit)
			v >>= bitsOfByte
		}
		w.written = append(w.written, byte(v))
	}
}

// Int appends signed numbers; those near 0 are short, whatever their sign.
func (w *Writer) Int(n ...int64) {
	for _, v := range n {
		w.Num(fold(v))
	}
}

// fold returns 2n, or -2n - 1 if n is negative.
func fold(n int64) uint64 {
	if n < 0 {
		// ^n is -n - 1: unlike -n, it has 63 bits for the least number too.
		return uint64(^n)<<1 | 1
	}
	return uint64(n) << 1
}

// Text appends strings, each behind its length.
func (w *Writer) Text(s ...string) {
	for _, v := range s {
		w.Num(uint64(len(v)))
		w.written = append(w.written, v...)
	}
}

// Bool appends booleans, a byte each.
func (w *Writer) Bool(b ...bool) {
	for _, v := range b {
		var bit byte
		if v {
			bit = 1
		}
		w.written = append(w.written, bit)
	}
}

// Summary appends summaries.
func (w *Writer) Summary(s ...api.Summary) {
	sw := summaryWriter{w}
	for _, v := range s {
		sw.summary(v)
	}
}

// Bytes returns all bytes written so far, in memory of their own.
func (w *Writer) Bytes() []byte {
	return bytes.Clone(w.written)
}

// summaryWriter writes summaries, part by part, with the methods of a Writer.
type summaryWriter struct {
	*Writer
}

func (w summaryWriter) summary(s api.Summary) {
	w.alarms(s.Alarms)
	w.Bool(s.Ends)
	w.interval(s.Ret)
	w.cells(s.Mod)
}

func (w summaryWriter) alarms(alarms []api.Alarm) {
	w.Num(uint64(len(alarms)))
	for _, a := range alarms {
		w.Int(int64(a.At), int64(a.Kind))
	}
}

// interval leaves the bounds of an interval without numbers out: with them, it
// would have more than one encoding.
func (w summaryWriter) interval(v api.Ival) {
	w.Bool(v.Some)
	if v.Some {
		w.Int(v.Lo, v.Hi)
	}
}

func (w summaryWriter) cells(cells []api.Named) {
	w.Num(uint64(len(cells)))
	for _, c := range cells {
		w.Text(c.Name)
		w.interval(c.V)
	}
}
