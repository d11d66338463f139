package parse

import (
	"strconv"

	"augur/api"
)

// endOfText is the kind of the token that stands behind the last one.
const endOfText = api.TokOp + 1

// position is a place in the tokens of a text. Names, numbers and operators have
// no texts in common, so that a token is known by its text.
type position struct {
	tokens []api.Token
	next   int // the first token that is not yet read
	length int // of the text
}

// peek returns the token that is i places behind the next one.
func (p *position) peek(i int) api.Token {
	if p.next+i >= len(p.tokens) {
		return api.Token{Kind: endOfText, At: p.length}
	}
	return p.tokens[p.next+i]
}

// skip reads the next token.
func (p *position) skip() {
	p.next++
}

// isNext tells whether the next token has this text.
func (p *position) isNext(text string) bool {
	return p.peek(0).Text == text
}

// isNamed tells whether a name and then a token of this text are next.
func (p *position) isNamed(text string) bool {
	return isName(p.peek(0)) && p.peek(1).Text == text
}

// isEnd tells whether all tokens are read.
func (p *position) isEnd() bool {
	return p.peek(0).Kind == endOfText
}

// accept reads the next token if it has this text, and tells whether it has.
func (p *position) accept(text string) bool {
	if !p.isNext(text) {
		return false
	}
	p.skip()
	return true
}

// expect reads the next token, which must have this text.
func (p *position) expect(text string) {
	if !p.accept(text) {
		refuse(p.peek(0), api.ErrParse)
	}
}

// expectEnd refuses what follows the whole.
func (p *position) expectEnd() {
	if !p.isEnd() {
		refuse(p.peek(0), api.ErrParse)
	}
}

// name reads a name.
func (p *position) name() string {
	t := p.peek(0)
	if !isName(t) {
		refuse(t, api.ErrParse)
	}
	p.skip()
	return t.Text
}

// number reads a number.
func (p *position) number() int64 {
	t := p.peek(0)
	if t.Kind != api.TokNum {
		refuse(t, api.ErrParse)
	}
	p.skip()
	// A token that is a number has 63 bits at most.
	n, _ := strconv.ParseInt(t.Text, 10, 64)
	return n
}

// isName tells whether a token is a name and not a keyword.
func isName(t api.Token) bool {
	return t.Kind == api.TokName && !isKeyword(t.Text)
}

func isKeyword(word string) bool {
	switch word {
	case "fn", "var", "ptr", "if", "else", "while", "return", "assert", "null", "cell", "array":
		return true
	}
	return false
}
