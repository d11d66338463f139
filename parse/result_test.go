package parse

import (
	"math/rand"
	"strings"
	"testing"
	"unsafe"

	"augur/api"
)

const everything = `fn f(x, *p, y) {
	var a; ptr q; var b;
	a = -x + y * (2 - b); q = &c; p = null; a = *p; *q = 1; a = t[x]; t[1] = a;
	g(x, y + 1, 3); a = g(y, x);
	if (x == 1 && !p == null || y < 2) { a = 1; b = 2; return 3; } else { a = 4; b = 5; h(); }
	while (p != null) { assert (x >= 0); a = 6; b = 7; }
	return a;
}`

// What holds everywhere: a result is in memory of its own, and so is each of its
// lists.
func TestResults(t *testing.T) {
	s := strings.Clone(everything)
	first, _, e := Func(s)
	second, _, _ := Func(s)
	if e != api.OK {
		t.Fatal(e)
	}
	want := dump(second)
	whole := dump(first)
	spill(first.Params, api.Var{Name: "other"})
	spill(first.Locals, api.Var{Name: "other"})
	spillStmts(first.Body)
	if dump(first) != whole {
		t.Errorf("lists share memory: %s, was %s", dump(first), whole)
	}
	clear(first.Params)
	clear(first.Locals)
	clear(first.Body)
	if dump(second) != want {
		t.Errorf("after a change of another result: %s, want %s", dump(second), want)
	}
	l := &looker{t: t, argument: s, exprs: map[*api.Expr]bool{}, conds: map[*api.Cond]bool{}}
	l.name(second.Name)
	for _, v := range append(second.Params, second.Locals...) {
		l.name(v.Name)
	}
	l.stmts(second.Body)
}

// spill writes behind the end of a list.
func spill[T any](list []T, v T) {
	_ = append(list, v, v, v)
}

func spillStmts(stmts []api.Stmt) {
	spill(stmts, api.Stmt{X: "other"})
	for _, s := range stmts {
		spill(s.Args, api.Arg{Name: "other"})
		spillStmts(s.Then)
		spillStmts(s.Else)
	}
}

// looker goes through a tree: no part of it stands at two places, and no name
// lies within the argument.
type looker struct {
	t        *testing.T
	argument string
	exprs    map[*api.Expr]bool
	conds    map[*api.Cond]bool
}

func (l *looker) name(s string) {
	begin := uintptr(unsafe.Pointer(unsafe.StringData(l.argument)))
	at := uintptr(unsafe.Pointer(unsafe.StringData(s)))
	if s != "" && begin <= at && at < begin+uintptr(len(l.argument)) {
		l.t.Errorf("the name %s shares the memory of the argument", s)
	}
}

func (l *looker) stmts(stmts []api.Stmt) {
	for _, s := range stmts {
		l.name(s.X)
		l.name(s.Y)
		l.expr(s.E)
		l.expr(s.F)
		l.cond(s.C)
		for _, a := range s.Args {
			l.expr(a.E)
		}
		l.stmts(s.Then)
		l.stmts(s.Else)
	}
}

func (l *looker) expr(e *api.Expr) {
	if e == nil {
		return
	}
	if l.exprs[e] {
		l.t.Errorf("%s stands at two places", dump(e))
	}
	l.exprs[e] = true
	l.name(e.Name)
	l.expr(e.A)
	l.expr(e.B)
}

func (l *looker) cond(c *api.Cond) {
	if c == nil {
		return
	}
	if l.conds[c] {
		l.t.Errorf("%s stands at two places", dump(c))
	}
	l.conds[c] = true
	l.name(c.Name)
	l.expr(c.A)
	l.expr(c.B)
	l.cond(c.P)
	l.cond(c.Q)
}

// What holds everywhere: globals are in memory of their own, too.
func TestResultsOfGlobals(t *testing.T) {
	s := strings.Clone("cell a; array t[3]; cell b; array u[2]; cell c; array v[1];")
	first, _, _ := Globals(s)
	second, _, _ := Globals(s)
	want := dump(second)
	spill(first.Cells, "other")
	spill(first.Arrays, api.Array{Name: "other"})
	if dump(first) != want {
		t.Errorf("lists share memory: %s", dump(first))
	}
	clear(first.Cells)
	clear(first.Arrays)
	if dump(second) != want {
		t.Errorf("after a change of another result: %s", dump(second))
	}
	l := &looker{t: t, argument: s}
	for i := range second.Cells {
		l.name(second.Cells[i])
		l.name(second.Arrays[i].Name)
	}
}

// What holds everywhere: whatever the bytes are, the functions end, and what
// they return beside an error is zero and lies within the text.
func TestAnyBytes(t *testing.T) {
	check := func(s string) {
		f, at, e := Func(s)
		if e != api.OK && dump(f) != dump(api.Func{}) || at < 0 || at > len(s) || e == api.OK && at != 0 {
			t.Fatalf("Func(%q): %d, %v, %s", s, at, e, dump(f))
		}
		g, at, e := Globals(s)
		if e != api.OK && dump(g) != dump(api.Globals{}) || at < 0 || at > len(s) || e == api.OK && at != 0 {
			t.Fatalf("Globals(%q): %d, %v, %s", s, at, e, dump(g))
		}
	}
	r := rand.New(rand.NewSource(4))
	for range 3000 {
		b := []byte(everything)
		for range 1 + r.Intn(4) {
			b[r.Intn(len(b))] = byte(r.Intn(256)) >> r.Intn(2)
		}
		check(string(b))
		check(string(b[:r.Intn(len(b))]))
		check(string(b[r.Intn(len(b)):]))
	}
	for _, token := range alphabet() {
		for _, n := range []int{1, 39, 40, 41, 1000, api.MaxText, api.MaxText + 1} {
			for _, head := range []string{"", "fn f(", "fn f() {", "fn f() { x = ", "fn f() { assert (", "fn f() { if (x == 1) {", "cell c; ", "array a["} {
				check(head + strings.Repeat(token, n))
				check(head + strings.Repeat(token+" ", n))
			}
		}
	}
}

// P7.4: a text denotes one function or none, and the same one whenever it is
// read; not globals too, unless it is empty of tokens and so no function.
func TestOne(t *testing.T) {
	texts := []string{everything, "fn f(){}", "cell a; array b[2];", "cell a;", "", "# fn f() {}", "fn f() { cell a; }"}
	for range 3 {
		for _, s := range texts {
			f, at, e := Func(s)
			again, atAgain, eAgain := Func(s)
			if dump(f) != dump(again) || at != atAgain || e != eAgain {
				t.Errorf("Func(%q): %d, %v, then %d, %v", s, at, e, atAgain, eAgain)
			}
			_, _, eGlobals := Globals(s)
			if e == api.OK && eGlobals == api.OK {
				t.Errorf("%q denotes a function and globals", s)
			}
		}
	}
}
