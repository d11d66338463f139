package lex

import (
	"augur/api"
)

// A text consists of pieces. These are the kinds of the pieces without meaning;
// the others are tokens, of the kinds of package api.
const (
	blank = api.TokOp + 1 + iota
	comment
)

const endOfLine = '\n'

// reader reads a text piece by piece, and keeps the tokens.
type reader struct {
	text   string
	tokens []api.Token
	kind   int // of the piece that is being read
	from   int // where this piece begins
}

// newReader returns a reader of s and an end of a line. This byte is a part of
// no token, so that every token of s ends ahead of it and has a byte that
// follows; and with it, the tokens are parts of a new text and not of s.
func newReader(s string) *reader {
	return &reader{text: s + string(endOfLine), kind: blank}
}

// begin begins a piece with the byte at i.
func (r *reader) begin(i int) {
	r.from = i
	r.kind = kindOf(r.text[i])
}

// kindOf returns the kind of the piece that begins with b. A byte that begins
// nothing counts as an operator that does not exist.
func kindOf(b byte) int {
	switch {
	case isBlank(b):
		return blank
	case b == '#':
		return comment
	case isLetter(b):
		return api.TokName
	case isDigit(b):
		return api.TokNum
	}
	return api.TokOp
}

// goesOn tells whether the byte at i belongs to the piece that is being read.
func (r *reader) goesOn(i int) bool {
	b := r.text[i]
	switch r.kind {
	case comment:
		return b != endOfLine
	case api.TokName:
		return isLetter(b) || isDigit(b)
	case api.TokNum:
		return isDigit(b)
	case api.TokOp:
		return isOperator(r.text[r.from : i+1])
	}
	return false
}

// end ends the piece that is being read ahead of the byte at i.
func (r *reader) end(i int) api.Errno {
	if r.kind == blank || r.kind == comment {
		return api.OK
	}
	word := r.text[r.from:i]
	if e := faultOf(r.kind, word, r.text[i]); e != api.OK {
		return e
	}
	r.tokens = append(r.tokens, api.Token{Kind: r.kind, Text: word, At: r.from})
	return api.OK
}
