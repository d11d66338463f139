package lex

import (
	"strconv"

	"augur/api"
)

// faultOf returns the error of a token of this kind, which the byte next
// follows.
func faultOf(kind int, word string, next byte) api.Errno {
	switch kind {
	case api.TokName:
		return faultOfName(word)
	case api.TokNum:
		return faultOfNumber(word, next)
	}
	return faultOfOperator(word)
}

func faultOfName(word string) api.Errno {
	if len(word) > api.MaxName {
		return api.ErrLong
	}
	return api.OK
}

func faultOfNumber(word string, next byte) api.Errno {
	// Of decimal digits alone, a number can have no other fault here than that
	// it is too great; zeros ahead of it do not make it so.
	if _, err := strconv.ParseInt(word, 10, 64); err != nil {
		return api.ErrLong
	}
	if isLetter(next) || word[0] == '0' && len(word) > 1 {
		return api.ErrLex
	}
	return api.OK
}

func faultOfOperator(word string) api.Errno {
	if !isOperator(word) {
		return api.ErrLex
	}
	return api.OK
}

func isOperator(word string) bool {
	switch word {
	case "==", "!=", "<=", ">=", "&&", "||",
		"=", "<", ">", "+", "-", "*", "/", "%", "&", "!",
		"(", ")", "{", "}", "[", "]", ",", ";":
		return true
	}
	return false
}

func isBlank(b byte) bool {
	return b == ' ' || b == '\t' || b == '\r' || b == endOfLine
}

// isLetter counts _ in, which may stand wherever a letter may.
func isLetter(b byte) bool {
	return 'a' <= b && b <= 'z' || 'A' <= b && b <= 'Z' || b == '_'
}

func isDigit(b byte) bool {
	return '0' <= b && b <= '9'
}
