package parse

import (
	"math/rand"
	"slices"
	"strings"
	"testing"

	"augur/api"
)

// signs are the operators of package lex.
const signs = "== != <= >= && || = < > + - * / % & ! ( ) { } [ ] , ;"

// alphabet is each token that differs from the others.
func alphabet() []string {
	return append(strings.Fields(keywords+" "+signs), "x", "0")
}

// placed joins tokens with blanks, or with nothing where that keeps them apart,
// and returns where each begins, and the end.
func placed(r *rand.Rand, tokens []string) (string, []int) {
	between := []string{" ", "\n", "\t\r", "# no ; more\n"}
	tight := r.Intn(2) == 0
	var b strings.Builder
	var at []int
	for i, token := range tokens {
		if i > 0 && (!tight || stick(tokens[i-1], token)) {
			b.WriteString(between[max(0, r.Intn(20)-16)])
		}
		at = append(at, b.Len())
		b.WriteString(token)
	}
	return b.String(), append(at, b.Len())
}

// stick tells whether two tokens would become others without a blank.
func stick(a, b string) bool {
	inWord := func(s string) bool { return s[0] == '_' || isNumber(s) || s[0]|0x20 >= 'a' && s[0]|0x20 <= 'z' }
	return inWord(a) && inWord(b) || strings.Contains(" "+signs+" ", " "+a+b[:1]+" ")
}

// wanted returns what the models say of the tokens of a function.
func (g *grammar) wanted(tokens []string) (int, api.Errno) {
	wrongAt := g.firstWrong(tokens)
	fitting := tokens
	if wrongAt >= 0 {
		fitting = tokens[:wrongAt]
	}
	if over, e := firstOver(fitting); over >= 0 {
		return over, e
	}
	if wrongAt >= 0 {
		return wrongAt, api.ErrParse
	}
	return 0, api.OK
}

// agrees checks that Func returns for tokens what the models say, and tells
// whether this is no error.
func (g *grammar) agrees(t *testing.T, r *rand.Rand, tokens []string) bool {
	t.Helper()
	s, at := placed(r, tokens)
	number, want := g.wanted(tokens)
	if len(s) > api.MaxText {
		number, want = 0, api.ErrLong
	}
	f, gotAt, got := Func(s)
	wantAt := at[number]
	if gotAt != wantAt || got != want || got != api.OK && dump(f) != dump(api.Func{}) {
		t.Fatalf("Func(%q): %d, %v, want %d, %v", s, gotAt, got, wantAt, want)
	}
	return got == api.OK
}

// P7.1, P7.2: whatever follows what can still become a function, up to so many
// tokens.
func TestEveryToken(t *testing.T) {
	g := newGrammar(grammarOfFunctions)
	tokens := alphabet()
	for _, begin := range []struct {
		text string
		more int
	}{
		{"", 7},
		{"fn x ( x ) {", 4},
		{"fn x ( ) { var x ;", 4},
		{"fn x ( ) { x = 0 ;", 4},
		{"fn x ( ) { x =", 4},
		{"fn x ( ) { x = x [ 0 ]", 3},
		{"fn x ( ) { x = x ( x", 4},
		{"fn x ( ) { x [", 4},
		{"fn x ( ) { * x =", 4},
		{"fn x ( ) { assert (", 5},
		{"fn x ( ) { if ( x ==", 4},
		{"fn x ( ) { if ( x == x ) {", 4},
		{"fn x ( ) { if ( x != null ) { }", 4},
		{"fn x ( ) { if ( ! x == 0 ) { } else { }", 4},
		{"fn x ( ) { while ( ( 0 < x )", 4},
		{"fn x ( ) { while ( x == null ) { while ( 0 < 0 ) { }", 4},
	} {
		rows := g.begin()
		text := begin.text
		for _, token := range strings.Fields(text) {
			rows = g.next(rows, token)
		}
		g.extend(text, rows, tokens, begin.more, func(s string, wantAt int, want api.Errno) {
			if _, at, e := Func(s); at != wantAt || e != want {
				t.Fatalf("Func(%q): %d, %v, want %d, %v", s, at, e, wantAt, want)
			}
		})
	}
}

// extend checks what text returns with each token more, and goes on where one
// fits.
func (g *grammar) extend(text string, rows []*row, tokens []string, more int, check func(string, int, api.Errno)) {
	for _, token := range tokens {
		longer := strings.TrimSpace(text + " " + token)
		next := g.next(rows, token)
		switch {
		case next == nil:
			check(longer, len(longer)-len(token), api.ErrParse)
		case g.whole(next):
			check(longer, 0, api.OK)
		default:
			check(longer, len(longer), api.ErrParse)
		}
		if next != nil && more > 1 {
			g.extend(longer, next, tokens, more-1, check)
		}
	}
}

// P7.1: what is read is what was written, however deep and long it is; P7.2: or
// it has the error that the models say.
func TestRandomFunctions(t *testing.T) {
	g := newGrammar(grammarOfFunctions)
	r := rand.New(rand.NewSource(1))
	right := 0
	for i := range 3000 {
		w := &writer{Rand: r}
		f := w.function(r.Intn(4), r.Intn(5), r.Intn(1+i%12), r.Intn(6))
		if !g.agrees(t, r, w.tokens) {
			continue
		}
		right++
		s, _ := placed(r, w.tokens)
		checkFunc(t, s, f)
		// P7.4: how the tokens are laid out has no meaning.
		checkFunc(t, strings.Join(w.tokens, "\n")+"#", f)
	}
	if right < 2500 {
		t.Errorf("only %d functions are right", right)
	}
}

// P7.2: functions that are about as great as they may be.
func TestRandomLimits(t *testing.T) {
	g := newGrammar(grammarOfFunctions)
	r := rand.New(rand.NewSource(2))
	errors := map[api.Errno]int{}
	check := func(tokens []string) {
		s, _ := placed(r, tokens)
		_, _, e := Func(s)
		errors[e]++
		g.agrees(t, r, tokens)
	}
	for range 150 {
		w := &writer{Rand: r}
		w.function(4+r.Intn(4), 17+r.Intn(5), 190+r.Intn(14), 0)
		check(w.tokens)
	}
	for range 300 {
		w := &writer{Rand: r}
		w.put("fn", "f", "(", ")", "{")
		w.nest(35 + r.Intn(8))
		w.put("}")
		check(w.tokens)
	}
	for _, e := range []api.Errno{api.OK, api.ErrLong, api.ErrDeep} {
		if errors[e] < 20 {
			t.Errorf("only %d functions with %v", errors[e], e)
		}
	}
}

// nest puts a statement in which so many things are open within one another.
func (w *writer) nest(levels int) {
	blocks := w.Intn(levels)
	nots := w.Intn(levels - blocks)
	var ends []string
	for range blocks {
		w.put("if", "(")
		w.cond(1, levelOr)
		w.put(")", "{")
		ends = append(ends, []string{"}", "} else { }"}[w.Intn(2)])
	}
	w.put("assert", "(")
	closed := w.within("!", "x == null ||", nots)
	w.put("x", "<")
	closed += w.within("-", "x + y *", levels-blocks-nots)
	w.put("1")
	for range closed {
		w.put(")")
	}
	w.put(")", ";")
	slices.Reverse(ends)
	for _, end := range ends {
		w.put(strings.Fields(end)...)
	}
}

// within puts so many signs or parentheses, behind some of which something else
// comes first, and returns how many have to be closed.
func (w *writer) within(sign, first string, levels int) int {
	closed := 0
	for range levels {
		if w.one(2) {
			w.put(sign)
			continue
		}
		w.put("(")
		closed++
		if w.one(3) {
			w.put(strings.Fields(first)...)
		}
	}
	return closed
}

// P7.2: functions of which tokens were changed.
func TestChangedFunctions(t *testing.T) {
	g := newGrammar(grammarOfFunctions)
	r := rand.New(rand.NewSource(3))
	all := alphabet()
	right := 0
	for range 6000 {
		w := &writer{Rand: r}
		w.function(r.Intn(4), r.Intn(3), r.Intn(6), r.Intn(5))
		tokens := w.tokens
		for range 1 + r.Intn(2) {
			tokens = changed(r, tokens, all)
		}
		if g.agrees(t, r, tokens) {
			right++
		}
	}
	if right < 60 || right > 3000 {
		t.Errorf("%d functions are right", right)
	}
}

// changed returns tokens of which one is dropped, doubled, added, replaced or
// swapped, or the last ones cut off.
func changed(r *rand.Rand, tokens, all []string) []string {
	if len(tokens) < 2 {
		return tokens
	}
	l := slices.Clone(tokens)
	i := r.Intn(len(l) - 1)
	switch r.Intn(6) {
	case 0:
		return slices.Delete(l, i, i+1)
	case 1:
		return slices.Insert(l, i, l[i])
	case 2:
		return slices.Insert(l, i, all[r.Intn(len(all))])
	case 3:
		l[i] = all[r.Intn(len(all))]
	case 4:
		l[i], l[i+1] = l[i+1], l[i]
	case 5:
		return l[:i]
	}
	return l
}

// P7.3: whatever follows what can still become globals.
func TestEveryTokenOfGlobals(t *testing.T) {
	g := newGrammar(grammarOfGlobals)
	g.extend("", g.begin(), append(alphabet(), "7"), 14, func(s string, wantAt int, want api.Errno) {
		if _, at, e := Globals(s); at != wantAt || e != want {
			t.Fatalf("Globals(%q): %d, %v, want %d, %v", s, at, e, wantAt, want)
		}
	})
}
