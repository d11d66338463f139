package parse

import (
	"encoding/json"
	"strings"
	"testing"

	"augur/api"
)

// dump writes all fields of a tree. What is nil and what is empty is the same.
func dump(tree any) string {
	b, err := json.Marshal(tree)
	if err != nil {
		panic(err)
	}
	return strings.ReplaceAll(string(b), "[]", "null")
}

// checkFunc checks that s denotes f.
func checkFunc(t *testing.T, s string, f api.Func) {
	t.Helper()
	got, at, e := Func(s)
	if dump(got) != dump(f) || at != 0 || e != api.OK {
		t.Errorf("Func(%.200q): %d, %v\ngot  %s\nwant %s", s, at, e, dump(got), dump(f))
	}
}

// checkBody checks that s denotes these statements, between the braces of a
// function.
func checkBody(t *testing.T, s string, stmts ...api.Stmt) {
	t.Helper()
	number(stmts, 0)
	checkFunc(t, "fn f() { "+s+" }", api.Func{Name: "f", Body: stmts})
}

// checkSum checks that s denotes e.
func checkSum(t *testing.T, s string, e *api.Expr) {
	t.Helper()
	checkBody(t, "x = "+s+";", assigned("x", e))
	checkBody(t, "return "+s+";", returned(e))
}

// checkCond checks that s denotes c.
func checkCond(t *testing.T, s string, c *api.Cond) {
	t.Helper()
	checkBody(t, "assert ("+s+");", asserted(c))
	checkBody(t, "while ("+s+") {}", while(c))
}

// checkError checks that s denotes no function, and where it goes wrong.
func checkError(t *testing.T, s string, wantAt int, want api.Errno) {
	t.Helper()
	f, at, e := Func(s)
	if at != wantAt || e != want || dump(f) != dump(api.Func{}) {
		t.Errorf("Func(%.200q): %d, %v, want %d, %v; %s", s, at, e, wantAt, want, dump(f))
	}
}

// checkGlobals checks that s declares g.
func checkGlobals(t *testing.T, s string, g api.Globals) {
	t.Helper()
	got, at, e := Globals(s)
	if dump(got) != dump(g) || at != 0 || e != api.OK {
		t.Errorf("Globals(%.200q): %d, %v\ngot  %s\nwant %s", s, at, e, dump(got), dump(g))
	}
}

// checkGlobalsError checks that s declares no globals, and where it goes wrong.
func checkGlobalsError(t *testing.T, s string, wantAt int, want api.Errno) {
	t.Helper()
	g, at, e := Globals(s)
	if at != wantAt || e != want || dump(g) != dump(api.Globals{}) {
		t.Errorf("Globals(%.200q): %d, %v, want %d, %v; %s", s, at, e, wantAt, want, dump(g))
	}
}

// number numbers statements in the order of the text, from at on, and returns
// the number behind the last one.
func number(stmts []api.Stmt, at int) int {
	for i := range stmts {
		stmts[i].At = at
		at = number(stmts[i].Then, at+1)
		at = number(stmts[i].Else, at)
	}
	return at
}

func num(n int64) *api.Expr                   { return &api.Expr{Kind: api.ENum, N: n} }
func val(name string) *api.Expr               { return &api.Expr{Kind: api.EVar, Name: name} }
func neg(a *api.Expr) *api.Expr               { return &api.Expr{Kind: api.ENeg, A: a} }
func add(a, b *api.Expr) *api.Expr            { return &api.Expr{Kind: api.EAdd, A: a, B: b} }
func sub(a, b *api.Expr) *api.Expr            { return &api.Expr{Kind: api.ESub, A: a, B: b} }
func mul(a, b *api.Expr) *api.Expr            { return &api.Expr{Kind: api.EMul, A: a, B: b} }
func div(a, b *api.Expr) *api.Expr            { return &api.Expr{Kind: api.EDiv, A: a, B: b} }
func mod(a, b *api.Expr) *api.Expr            { return &api.Expr{Kind: api.EMod, A: a, B: b} }
func both(p, q *api.Cond) *api.Cond           { return &api.Cond{Kind: api.CAnd, P: p, Q: q} }
func either(p, q *api.Cond) *api.Cond         { return &api.Cond{Kind: api.COr, P: p, Q: q} }
func not(p *api.Cond) *api.Cond               { return &api.Cond{Kind: api.CNot, P: p} }
func isNull(name string) *api.Cond            { return &api.Cond{Kind: api.CNull, Name: name} }
func equals(a, b *api.Expr) *api.Cond         { return compared(api.CEq, a, b) }
func assigned(x string, e *api.Expr) api.Stmt { return api.Stmt{Kind: api.SAssign, X: x, E: e} }
func returned(e *api.Expr) api.Stmt           { return api.Stmt{Kind: api.SReturn, E: e} }
func asserted(c *api.Cond) api.Stmt           { return api.Stmt{Kind: api.SAssert, C: c} }

func compared(kind int, a, b *api.Expr) *api.Cond {
	return &api.Cond{Kind: kind, A: a, B: b}
}

func while(c *api.Cond, body ...api.Stmt) api.Stmt {
	return api.Stmt{Kind: api.SWhile, C: c, Then: body}
}

func choose(c *api.Cond, yes, no []api.Stmt) api.Stmt {
	return api.Stmt{Kind: api.SIf, C: c, Then: yes, Else: no}
}

func called(x, f string, args ...*api.Expr) api.Stmt {
	s := api.Stmt{Kind: api.SCall, X: x, Y: f}
	for _, e := range args {
		s.Args = append(s.Args, api.Arg{E: e})
	}
	return s
}

// list makes a list of statements.
func list(stmts ...api.Stmt) []api.Stmt { return stmts }
