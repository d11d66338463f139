package store

import (
	"augur/api"
	"augur/code"
	"augur/wal"
)

// Each record of the log is a pair; its first text says what the pair does, and
// tells it from the records of other logs.
const (
	setMark  = "set"
	goneMark = "gone"
)

// log is the log of a store. It doesn't embed the log of package wal: through a
// Store, anyone could add records then that the table doesn't know of.
type log struct {
	records *wal.Log
	down    bool
}

// Down reports whether a call has found no power.
func (l *log) Down() bool {
	return l.down
}

// add writes pairs behind those that the log holds.
func (l *log) add(pairs []Pair) api.Errno {
	return l.told(l.records.Commit(recordsOf(pairs)...))
}

// replace writes pairs in place of those that the log holds.
func (l *log) replace(pairs []Pair) api.Errno {
	return l.told(l.records.Reset(recordsOf(pairs)...))
}

// told takes note of what a call of the log returned, and returns it.
func (l *log) told(e api.Errno) api.Errno {
	l.down = e == api.ErrDiskDead
	return e
}

func recordsOf(pairs []Pair) [][]byte {
	var records [][]byte
	for _, p := range pairs {
		records = append(records, recordOf(p))
	}
	return records
}

func recordOf(p Pair) []byte {
	w := code.NewWriter()
	if p.Gone {
		w.Text(goneMark, p.Key)
	} else {
		w.Text(setMark, p.Key, p.Value)
	}
	return w.Bytes()
}

// pairOf returns the pair of which b is the record, or false if it is that of
// none.
func pairOf(b []byte) (Pair, bool) {
	var p Pair
	r := code.NewReader(b)
	switch r.Text() {
	case setMark:
		p = Pair{Key: r.Text(), Value: r.Text()}
	case goneMark:
		p = Pair{Key: r.Text(), Gone: true}
	default:
		return Pair{}, false
	}
	if r.Done() != api.OK || tooLong(p) {
		return Pair{}, false
	}
	return p, true
}
