package lex

import (
	"math/big"
	"math/rand"
	"regexp"
	"slices"
	"strings"
	"testing"

	"augur/api"
)

// model reads a text by expressions, each of which takes the most that it can.
type model struct {
	skipped, name, number, operator *regexp.Regexp
}

func newModel() model {
	var quoted []string
	for _, op := range operators {
		quoted = append(quoted, regexp.QuoteMeta(op))
	}
	begins := func(s string) *regexp.Regexp {
		e := regexp.MustCompile(`^(?:` + s + `)`)
		e.Longest()
		return e
	}
	return model{
		skipped:  begins(`[ \t\r\n]|#[^\n]*`),
		name:     begins(`[A-Za-z_][A-Za-z0-9_]*`),
		number:   begins(`[0-9]+`),
		operator: begins(strings.Join(quoted, "|")),
	}
}

func (m model) tokens(s string) ([]api.Token, int, api.Errno) {
	if len(s) > 4096 {
		return nil, 0, api.ErrLong
	}
	var tokens []api.Token
	for at := 0; at < len(s); {
		rest := []byte(s[at:])
		if skip := m.skipped.Find(rest); skip != nil {
			at += len(skip)
			continue
		}
		token, e := m.token(rest)
		if e != api.OK {
			return nil, at, e
		}
		token.At = at
		tokens = append(tokens, token)
		at += len(token.Text)
	}
	return tokens, 0, api.OK
}

// token returns the token with which rest begins.
func (m model) token(rest []byte) (api.Token, api.Errno) {
	if word := string(m.name.Find(rest)); word != "" {
		if len(word) > 32 {
			return api.Token{}, api.ErrLong
		}
		return api.Token{Kind: api.TokName, Text: word}, api.OK
	}
	if word := string(m.number.Find(rest)); word != "" {
		greatest := new(big.Int).Sub(new(big.Int).Lsh(big.NewInt(1), 63), big.NewInt(1))
		n, _ := new(big.Int).SetString(word, 10)
		if n.Cmp(greatest) > 0 {
			return api.Token{}, api.ErrLong
		}
		if m.name.Match(rest[len(word):]) || n.String() != word {
			return api.Token{}, api.ErrLex
		}
		return api.Token{Kind: api.TokNum, Text: word}, api.OK
	}
	if word := string(m.operator.Find(rest)); word != "" {
		return api.Token{Kind: api.TokOp, Text: word}, api.OK
	}
	return api.Token{}, api.ErrLex
}

// agrees checks that Tokens returns for s what the model does, and tells
// whether this is no error.
func (m model) agrees(t *testing.T, s string) bool {
	t.Helper()
	got, at, e := Tokens(s)
	want, wantAt, wantErr := m.tokens(s)
	if !slices.Equal(got, want) || at != wantAt || e != wantErr {
		t.Fatalf("Tokens(%q): %v, %d, %v, want %v, %d, %v", s, got, at, e, want, wantAt, wantErr)
	}
	return e == api.OK
}

// P6.1: all texts of two bytes, and all short ones of bytes of each class.
func TestShortTexts(t *testing.T) {
	m := newModel()
	right := 0
	for a := range 256 {
		for b := range 256 {
			if m.agrees(t, string([]byte{byte(a), byte(b)})) {
				right++
			}
		}
	}
	const bytes = " \n#a_01=!<&|;$"
	for length := 3; length <= 4; length++ {
		total := 1
		for range length {
			total *= len(bytes)
		}
		for i := range total {
			text := make([]byte, length)
			for j := range text {
				text[j] = bytes[i%len(bytes)]
				i /= len(bytes)
			}
			if m.agrees(t, string(text)) {
				right++
			}
		}
	}
	if right < 20000 {
		t.Errorf("only %d texts have no error", right)
	}
}

// P6.1: long texts of what the language has, with few errors or many.
func TestRandomTexts(t *testing.T) {
	m := newModel()
	r := rand.New(rand.NewSource(2))
	faults := []string{"$", "|", "é", "\x00", "00", "1a", "9223372036854775808", strings.Repeat("n", 33), "\xff"}
	pieces := piecesOfText()
	right := 0
	for i := range 4000 {
		var b strings.Builder
		for range r.Intn(1 + i%300) {
			if r.Intn(200) == 0 {
				b.WriteString(faults[r.Intn(len(faults))])
			} else {
				b.WriteString(pieces[r.Intn(len(pieces))])
			}
			if r.Intn(3) > 0 {
				b.WriteString(" ")
			}
		}
		if m.agrees(t, b.String()) {
			right++
		}
	}
	if right < 400 {
		t.Errorf("only %d texts have no error", right)
	}
}

// P6.1: whatever the bytes are, Tokens ends and agrees with the model.
func TestAnyBytes(t *testing.T) {
	m := newModel()
	r := rand.New(rand.NewSource(3))
	for range 4000 {
		b := make([]byte, r.Intn(40))
		for i := range b {
			b[i] = byte(r.Intn(256)) >> r.Intn(3)
		}
		m.agrees(t, string(b))
	}
	for _, length := range []int{api.MaxText - 1, api.MaxText, api.MaxText + 1, 3 * api.MaxText} {
		for _, b := range []string{"#", "=", "a", "1", "0", "|", "\n", "\xff"} {
			m.agrees(t, strings.Repeat(b, length))
		}
	}
}
