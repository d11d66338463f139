package lex

import (
	"math/rand"
	"slices"
	"strings"
	"testing"
	"unsafe"

	"augur/api"
)

// operators are those that the chapter lists.
var operators = strings.Fields("== != <= >= && || = < > + - * / % & ! ( ) { } [ ] , ;")

func name(text string, at int) api.Token {
	return api.Token{Kind: api.TokName, Text: text, At: at}
}

func number(text string, at int) api.Token {
	return api.Token{Kind: api.TokNum, Text: text, At: at}
}

func operator(text string, at int) api.Token {
	return api.Token{Kind: api.TokOp, Text: text, At: at}
}

// checkTokens checks that s has these tokens.
func checkTokens(t *testing.T, s string, want ...api.Token) {
	t.Helper()
	got, at, e := Tokens(s)
	if !slices.Equal(got, want) || at != 0 || e != api.OK {
		t.Errorf("Tokens(%.60q): %v, %d, %v, want %v, 0, %v", s, got, at, e, want, api.OK)
	}
}

// checkError checks that s has this error there, and nothing beside it.
func checkError(t *testing.T, s string, wantAt int, want api.Errno) {
	t.Helper()
	got, at, e := Tokens(s)
	if len(got) != 0 || at != wantAt || e != want {
		t.Errorf("Tokens(%.60q): %d tokens, %d, %v, want none, %d, %v", s, len(got), at, e, wantAt, want)
	}
}

// P6.1: the tokens in order, each with its kind and offset.
func TestTokens(t *testing.T) {
	checkTokens(t, "a<=b", name("a", 0), operator("<=", 1), name("b", 3))
	checkTokens(t, "fn f(x) { return x + 1; }",
		name("fn", 0), name("f", 3), operator("(", 4), name("x", 5), operator(")", 6),
		operator("{", 8), name("return", 10), name("x", 17), operator("+", 19), number("1", 21), operator(";", 22),
		operator("}", 24))
	checkTokens(t, "x = -7;", name("x", 0), operator("=", 2), operator("-", 4), number("7", 5), operator(";", 6))
	checkTokens(t, "array a[10];", name("array", 0), name("a", 6), operator("[", 7), number("10", 8), operator("]", 10), operator(";", 11))
}

// P6.1: texts without tokens, and the examples of errors.
func TestNoTokens(t *testing.T) {
	for _, s := range []string{"", " ", "\n", " \t\r\n", "#", "# a", "#\n", "##", "# $ \xff\n\t# |"} {
		checkTokens(t, s)
	}
	checkError(t, "a $", 2, api.ErrLex)
	checkError(t, "x 9223372036854775808", 2, api.ErrLong)
}

// P6.1: blanks are skipped, wherever they stand; no other byte is a blank.
func TestBlanks(t *testing.T) {
	checkTokens(t, "\ta \n\r b\r\n", name("a", 1), name("b", 6))
	for _, b := range []string{" ", "\t", "\r", "\n"} {
		checkTokens(t, b+"a"+b+"1"+b+"="+b+"=", name("a", 1), number("1", 3), operator("=", 5), operator("=", 7))
	}
	for _, b := range []string{"\v", "\f", "\x00", "\b", "\x85", "\xa0", "\u00a0", "\u2028", "\ufeff"} {
		checkError(t, "a"+b+"b", 1, api.ErrLex)
	}
}

// P6.1: a comment goes to the end of its line and no further, whatever it holds.
func TestComments(t *testing.T) {
	checkTokens(t, "a#b\nc", name("a", 0), name("c", 4))
	checkTokens(t, "a # b = $ | \xff\x00 01 # \t d\r\nc", name("a", 0), name("c", 25))
	checkTokens(t, "a #b\rc", name("a", 0))
	checkTokens(t, "1#\n#\n\n#a\n2#", number("1", 0), number("2", 9))
	checkTokens(t, "=#\n=", operator("=", 0), operator("=", 3))
	checkTokens(t, "#"+strings.Repeat("9", 100)+strings.Repeat("a", 100))
	checkTokens(t, "//", operator("/", 0), operator("/", 1))
	checkError(t, "# $\n$", 4, api.ErrLex)
}

// P6.1: which bytes a name begins with and consists of.
func TestNames(t *testing.T) {
	const letters = "abcdefghijklmnopqrstuvwxyzABCDEFGHIJKLMNOPQRSTUVWXYZ_"
	const digits = "0123456789"
	for i := range 256 {
		b := string([]byte{byte(i)})
		if strings.Contains(letters, b) {
			checkTokens(t, b, name(b, 0))
		}
		if strings.Contains(letters+digits, b) {
			checkTokens(t, "a"+b+"z", name("a"+b+"z", 0))
		} else if i >= 0x80 {
			checkError(t, b, 0, api.ErrLex)
			checkError(t, "a"+b+"z", 1, api.ErrLex)
		}
	}
	for _, s := range []string{"_", "__", "_0", "a0b1", "f_1", "Fn", "nil"} {
		checkTokens(t, " "+s, name(s, 1))
	}
	checkError(t, "é", 0, api.ErrLex)
	checkError(t, "aé", 1, api.ErrLex)
	checkError(t, "名", 0, api.ErrLex)
	checkError(t, "a.b", 1, api.ErrLex)
	checkError(t, "a'", 1, api.ErrLex)
	checkError(t, "$a", 0, api.ErrLex)
}

// P6.1: a name has at most MaxName bytes.
func TestLongNames(t *testing.T) {
	longest := strings.Repeat("aZ_9", api.MaxName/4)
	checkTokens(t, longest, name(longest, 0))
	checkTokens(t, "("+longest+" "+longest+")", operator("(", 0), name(longest, 1), name(longest, 34), operator(")", 66))
	for _, more := range []string{"a", "0", "_", longest, strings.Repeat("b", 4000)} {
		checkError(t, longest+more, 0, api.ErrLong)
		checkError(t, "a "+longest+more+" b", 2, api.ErrLong)
	}
	checkError(t, longest+"$", 32, api.ErrLex)
	checkError(t, longest+"a$", 0, api.ErrLong)
	checkError(t, longest+"aé", 0, api.ErrLong)
}

// P6.1: numbers, as far as they go, and their errors.
func TestNumbers(t *testing.T) {
	for _, s := range []string{"0", "1", "9", "10", "1000000", "1234567890", "9223372036854775806", "9223372036854775807", "8999999999999999999"} {
		checkTokens(t, s, number(s, 0))
		checkTokens(t, "-"+s+"-", operator("-", 0), number(s, 1), operator("-", 1+len(s)))
	}
	for _, s := range []string{"9223372036854775808", "9223372036854775809", "9999999999999999999", "10000000000000000000",
		"18446744073709551615", "18446744073709551616", "18446744073709551617", strings.Repeat("1", 4000)} {
		checkError(t, s, 0, api.ErrLong)
		checkError(t, "a "+s+";", 2, api.ErrLong)
	}
	for _, s := range []string{"1a", "1_", "0x", "0_", "12z3", "9223372036854775807a"} {
		checkError(t, s, 0, api.ErrLex)
		checkError(t, "a "+s, 2, api.ErrLex)
	}
	for _, s := range []string{"00", "01", "0000", "010", "09223372036854775807", strings.Repeat("0", 4000), strings.Repeat("0", 4000) + "1"} {
		checkError(t, s, 0, api.ErrLex)
		checkError(t, "a "+s, 2, api.ErrLex)
	}
	checkTokens(t, "0 0", number("0", 0), number("0", 2))
	checkTokens(t, "1#a", number("1", 0))
	checkError(t, "1.5", 1, api.ErrLex)
	checkError(t, "1é", 1, api.ErrLex) // é is no letter, so the number is right
}

// P6.1: a number that is too great is so whatever else is wrong with it.
func TestLongNumbersFirst(t *testing.T) {
	for _, s := range []string{"9223372036854775808a", "9223372036854775808_", "09223372036854775808", "00009223372036854775808x",
		strings.Repeat("0", 4000) + "9223372036854775808"} {
		checkError(t, s, 0, api.ErrLong)
		checkError(t, "  "+s, 2, api.ErrLong)
	}
}

// P6.1: every operator alone, and the longest that fits of several.
func TestOperators(t *testing.T) {
	for _, op := range operators {
		checkTokens(t, op, operator(op, 0))
		checkTokens(t, "a"+op+"1", name("a", 0), operator(op, 1), number("1", 1+len(op)))
	}
	for _, first := range operators {
		for _, next := range operators {
			checkTokens(t, first+" "+next, operator(first, 0), operator(next, len(first)+1))
		}
	}
	checkTokens(t, "===", operator("==", 0), operator("=", 2))
	checkTokens(t, "!==", operator("!=", 0), operator("=", 2))
	checkTokens(t, "=!=", operator("=", 0), operator("!=", 1))
	checkTokens(t, "<==>=", operator("<=", 0), operator("=", 2), operator(">=", 3))
	checkTokens(t, "=<=>", operator("=", 0), operator("<=", 1), operator(">", 3))
	checkTokens(t, "&&&", operator("&&", 0), operator("&", 2))
	checkTokens(t, "||||", operator("||", 0), operator("||", 2))
	checkTokens(t, "!!--", operator("!", 0), operator("!", 1), operator("-", 2), operator("-", 3))
	checkTokens(t, "<<>>++**%%", operator("<", 0), operator("<", 1), operator(">", 2), operator(">", 3), operator("+", 4),
		operator("+", 5), operator("*", 6), operator("*", 7), operator("%", 8), operator("%", 9))
	checkError(t, "|", 0, api.ErrLex)
	checkError(t, "|||", 2, api.ErrLex)
	checkError(t, "| |", 0, api.ErrLex)
	checkError(t, "a|=b", 1, api.ErrLex)
	checkError(t, "a&|b", 2, api.ErrLex)
}

// P6.1: any byte that begins no token is an error there.
func TestOtherBytes(t *testing.T) {
	const begin = " \t\r\n#_abcdefghijklmnopqrstuvwxyzABCDEFGHIJKLMNOPQRSTUVWXYZ0123456789=<>+-*/%&!(){}[],;"
	for i := range 256 {
		b := string([]byte{byte(i)})
		if strings.Contains(begin, b) {
			if _, at, e := Tokens(b); at != 0 || e != api.OK {
				t.Errorf("Tokens(%q): %d, %v", b, at, e)
			}
			continue
		}
		checkError(t, b, 0, api.ErrLex)
		checkError(t, "f ("+b+")", 3, api.ErrLex)
		checkError(t, ";="+b+"=", 2, api.ErrLex)
	}
}

// P6.1: a text has at most MaxText bytes; a longer one is not looked at.
func TestLongTexts(t *testing.T) {
	checkTokens(t, strings.Repeat(" ", api.MaxText))
	checkTokens(t, strings.Repeat(" ", api.MaxText-1)+"a", name("a", api.MaxText-1))
	checkTokens(t, strings.Repeat(" ", api.MaxText-1)+"#")
	checkError(t, strings.Repeat(" ", api.MaxText-1)+"$", api.MaxText-1, api.ErrLex)
	var want []api.Token
	for i := range api.MaxText {
		want = append(want, operator(";", i))
	}
	checkTokens(t, strings.Repeat(";", api.MaxText), want...)
	for _, b := range []string{" ", "a", "$", "#", ";", "\n"} {
		checkError(t, strings.Repeat(b, api.MaxText+1), 0, api.ErrLong)
		checkError(t, strings.Repeat(" ", api.MaxText)+b, 0, api.ErrLong)
	}
	checkError(t, "a $"+strings.Repeat("a", 1<<20), 0, api.ErrLong)
}

// P6.1: of several errors, the leftmost is returned, whatever they are.
func TestFirstError(t *testing.T) {
	faults := []struct {
		text string
		e    api.Errno
	}{
		{"$", api.ErrLex}, {"|", api.ErrLex}, {"01", api.ErrLex}, {"1a", api.ErrLex},
		{"9223372036854775808", api.ErrLong}, {strings.Repeat("n", api.MaxName+1), api.ErrLong},
	}
	for _, first := range faults {
		for _, next := range faults {
			checkError(t, "x "+first.text+" "+next.text, 2, first.e)
			checkError(t, "# "+next.text+"\n"+first.text+"\n"+next.text, len(next.text)+3, first.e)
		}
	}
}

// What holds everywhere: a result is in memory of its own.
func TestResults(t *testing.T) {
	s := strings.Clone("a = b + 12;")
	first, _, _ := Tokens(s)
	second, _, _ := Tokens(s)
	for i := range first {
		first[i] = api.Token{}
	}
	_ = append(first[:2], name("other", 1))
	want := []api.Token{name("a", 0), operator("=", 2), name("b", 4), operator("+", 6), number("12", 8), operator(";", 10)}
	if !slices.Equal(second, want) {
		t.Errorf("tokens after a change of another result: %v", second)
	}
	checkTokens(t, s, want...)
	begin := uintptr(unsafe.Pointer(unsafe.StringData(s)))
	for _, token := range second {
		at := uintptr(unsafe.Pointer(unsafe.StringData(token.Text)))
		if begin <= at && at < begin+uintptr(len(s)) {
			t.Errorf("token %v shares the memory of the argument", token)
		}
	}
}

// piecesOfText is where the random texts of the tests below come from.
func piecesOfText() []string {
	pieces := []string{" ", "  ", "\t", "\r", "\n", "\r\n", "# c\n", "#\n", "a", "b1", "_", "while", "7", "0", "42", "9223372036854775807"}
	return append(pieces, operators...)
}

// P6.2: what lies between the tokens can be replaced by other blanks or
// comments, and only that.
func TestBetween(t *testing.T) {
	r := rand.New(rand.NewSource(1))
	pieces := piecesOfText()
	found := 0
	for range 3000 {
		var b strings.Builder
		for range r.Intn(30) {
			b.WriteString(pieces[r.Intn(len(pieces))])
		}
		tokens, _, e := Tokens(b.String())
		if e != api.OK {
			continue
		}
		found += len(tokens)
		for _, between := range []string{" ", "\n", "\t\r", "#\n", "# a = 1; $\n"} {
			var again strings.Builder
			var want []api.Token
			for _, token := range tokens {
				again.WriteString(between)
				token.At = again.Len()
				want = append(want, token)
				again.WriteString(token.Text)
			}
			checkTokens(t, again.String(), want...)
		}
	}
	if found < 3000 {
		t.Errorf("only %d tokens were found", found)
	}
}
