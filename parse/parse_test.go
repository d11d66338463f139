package parse

import (
	"strings"
	"testing"

	"augur/api"
)

const keywords = "fn var ptr if else while return assert null cell array"

// P7.1: the chapter's examples, names, parameters, locals.
func TestFunctions(t *testing.T) {
	checkFunc(t, "fn f(){}", api.Func{Name: "f"})
	checkFunc(t, "fn f(x) { return x + 1; }", api.Func{Name: "f", Params: []api.Var{{Name: "x"}},
		Body: list(returned(add(val("x"), num(1))))})
	checkFunc(t, "fn f(*p) {}", api.Func{Name: "f", Params: []api.Var{{Name: "p", Ptr: true}}})
	checkFunc(t, "fn f(b, *a, c) {}", api.Func{Name: "f", Params: []api.Var{{Name: "b"}, {Name: "a", Ptr: true}, {Name: "c"}}})
	checkFunc(t, "fn f() { var x; }", api.Func{Name: "f", Locals: []api.Var{{Name: "x"}}})
	checkFunc(t, "fn f() { ptr q; var x; ptr p; var y; return 0; }", api.Func{Name: "f",
		Locals: []api.Var{{Name: "q", Ptr: true}, {Name: "x"}, {Name: "p", Ptr: true}, {Name: "y"}},
		Body:   list(returned(num(0)))})
	checkFunc(t, "fn _1(_) {}", api.Func{Name: "_1", Params: []api.Var{{Name: "_"}}})
}

// P7.1: what a name refers to, and whether it is declared, is not looked at.
func TestAnyNames(t *testing.T) {
	checkFunc(t, "fn f(f, f) { var f; f = f(f); }", api.Func{Name: "f", Params: []api.Var{{Name: "f"}, {Name: "f"}},
		Locals: []api.Var{{Name: "f"}}, Body: list(called("f", "f", val("f")))})
	checkFunc(t, "fn globals(globals) {}", api.Func{Name: "globals", Params: []api.Var{{Name: "globals"}}})
	for _, name := range []string{"Fn", "fn_", "iff", "NULL", "_if", "cells", "arr", "globals", "int", "for", strings.Repeat("n", api.MaxName)} {
		checkFunc(t, "fn "+name+"(*"+name+") { var "+name+"; }", api.Func{Name: name,
			Params: []api.Var{{Name: name, Ptr: true}}, Locals: []api.Var{{Name: name}}})
		checkBody(t, name+" = "+name+"; assert ("+name+" == null);", assigned(name, val(name)), asserted(isNull(name)))
		checkGlobals(t, "cell "+name+"; array "+name+"[1];",
			api.Globals{Cells: []string{name}, Arrays: []api.Array{{Name: name, Len: 1}}})
	}
}

// P7.1: every form of a statement.
func TestStatements(t *testing.T) {
	checkBody(t, "")
	checkBody(t, "x = 1;", assigned("x", num(1)))
	checkBody(t, "x = y;", assigned("x", val("y")))
	checkBody(t, "x = y + 1;", assigned("x", add(val("y"), num(1))))
	checkBody(t, "x = (y);", assigned("x", val("y")))
	checkBody(t, "x = -y;", assigned("x", neg(val("y"))))
	checkBody(t, "p = &x;", api.Stmt{Kind: api.SAddr, X: "p", Y: "x"})
	checkBody(t, "p = null;", api.Stmt{Kind: api.SNull, X: "p"})
	checkBody(t, "x = *p;", api.Stmt{Kind: api.SLoad, X: "x", Y: "p"})
	checkBody(t, "*p = x * 2;", api.Stmt{Kind: api.SStore, X: "p", E: mul(val("x"), num(2))})
	checkBody(t, "x = a[i + 1];", api.Stmt{Kind: api.SIndex, X: "x", Y: "a", E: add(val("i"), num(1))})
	checkBody(t, "a[i - 1] = x / 2;", api.Stmt{Kind: api.SPut, Y: "a", E: sub(val("i"), num(1)), F: div(val("x"), num(2))})
	checkBody(t, "g();", called("", "g"))
	checkBody(t, "g(x);", called("", "g", val("x")))
	checkBody(t, "g(x, 1 + 2, -y);", called("", "g", val("x"), add(num(1), num(2)), neg(val("y"))))
	checkBody(t, "x = g();", called("x", "g"))
	checkBody(t, "x = g(y, (z));", called("x", "g", val("y"), val("z")))
	checkBody(t, "g(a, b, c, d, e, f, g, h);",
		called("", "g", val("a"), val("b"), val("c"), val("d"), val("e"), val("f"), val("g"), val("h")))
	checkBody(t, "return x % 2;", returned(mod(val("x"), num(2))))
	checkBody(t, "assert (x == 1);", asserted(equals(val("x"), num(1))))
	checkBody(t, "assert (p == null);", asserted(isNull("p")))
}

// P7.1: the statements with blocks.
func TestBlocks(t *testing.T) {
	c := equals(val("x"), num(1))
	checkBody(t, "if (x == 1) {}", choose(c, nil, nil))
	checkBody(t, "if (x == 1) {} else {}", choose(c, nil, nil))
	checkBody(t, "if (x == 1) { g(); }", choose(c, list(called("", "g")), nil))
	checkBody(t, "if (x == 1) {} else { g(); }", choose(c, nil, list(called("", "g"))))
	checkBody(t, "if (x == 1) { g(); f(); } else { h(); }",
		choose(c, list(called("", "g"), called("", "f")), list(called("", "h"))))
	checkBody(t, "while (x == 1) {}", while(c))
	checkBody(t, "while (x == 1) { g(); x = 1; }", while(c, called("", "g"), assigned("x", num(1))))
	checkBody(t, "if (x == 1) { if (p == null) {} } else { while (x == 1) {} }",
		choose(c, list(choose(isNull("p"), nil, nil)), list(while(c))))
	checkBody(t, "if (x == 1) { if (p == null) {} else { g(); } }",
		choose(c, list(choose(isNull("p"), nil, list(called("", "g")))), nil))
}

// P7.1: statements are numbered in the order in which they begin.
func TestNumbers(t *testing.T) {
	const s = "fn f() { a(); if (x == 0) { b(); while (x == 0) { c(); } d(); } else { e(); } g(); while (x == 0) {} return 0; }"
	f, _, e := Func(s)
	if e != api.OK {
		t.Fatal(e)
	}
	choice := f.Body[1]
	loop := choice.Then[1]
	for i, s := range []api.Stmt{f.Body[0], choice, choice.Then[0], loop, loop.Then[0], choice.Then[2], choice.Else[0], f.Body[2], f.Body[3], f.Body[4]} {
		if s.At != i {
			t.Errorf("statement %d has the number %d: %s", i, s.At, dump(s))
		}
	}
}

// P7.1: which operators bind more, and how repeated ones are grouped.
func TestSums(t *testing.T) {
	a, b, c, d := val("a"), val("b"), val("c"), val("d")
	checkSum(t, "a", a)
	checkSum(t, "0", num(0))
	checkSum(t, "9223372036854775807", num(1<<63-1))
	checkSum(t, "-9223372036854775807", neg(num(1<<63-1)))
	checkSum(t, "-1", neg(num(1)))
	checkSum(t, "--a", neg(neg(a)))
	checkSum(t, "((a))", a)
	checkSum(t, "a + b - c + d", add(sub(add(a, b), c), d))
	checkSum(t, "a * b / c % d", mod(div(mul(a, b), c), d))
	checkSum(t, "a - (b - c)", sub(a, sub(b, c)))
	checkSum(t, "a / (b * c)", div(a, mul(b, c)))
	checkSum(t, "a + b * c", add(a, mul(b, c)))
	checkSum(t, "a * b + c", add(mul(a, b), c))
	checkSum(t, "a - b % c - d", sub(sub(a, mod(b, c)), d))
	checkSum(t, "(a + b) * c", mul(add(a, b), c))
	checkSum(t, "(a - b) / (c - d)", div(sub(a, b), sub(c, d)))
	checkSum(t, "-a * b", mul(neg(a), b))
	checkSum(t, "a * -b", mul(a, neg(b)))
	checkSum(t, "-a + b", add(neg(a), b))
	checkSum(t, "a - -b", sub(a, neg(b)))
	checkSum(t, "a--b", sub(a, neg(b)))
	checkSum(t, "-(a + b)", neg(add(a, b)))
	checkSum(t, "-(-(a))", neg(neg(a)))
	checkBody(t, "g(a + b, (c) * -d);", called("", "g", add(a, b), mul(c, neg(d))))
}

// P7.1: conditions; tests for null are told from comparisons.
func TestConditions(t *testing.T) {
	a, b := val("a"), val("b")
	for kind, operator := range []string{api.CEq: "==", api.CNe: "!=", api.CLt: "<", api.CLe: "<=", api.CGt: ">", api.CGe: ">="} {
		checkCond(t, "a "+operator+" b", compared(kind, a, b))
		checkCond(t, "a + 1 "+operator+" (b) * 2", compared(kind, add(a, num(1)), mul(b, num(2))))
		checkCond(t, "-a "+operator+" -b", compared(kind, neg(a), neg(b)))
		checkCond(t, "1 "+operator+" (2)", compared(kind, num(1), num(2)))
	}
	p, q, r := isNull("p"), isNull("q"), isNull("r")
	checkCond(t, "p == null", p)
	checkCond(t, "p != null", not(p))
	checkCond(t, "!p == null", not(p))
	checkCond(t, "!p != null", not(not(p)))
	checkCond(t, "!!p == null", not(not(p)))
	checkCond(t, "(p == null)", p)
	checkCond(t, "((a == b))", equals(a, b))
	checkCond(t, "!(a == b)", not(equals(a, b)))
	checkCond(t, "!a == b", not(equals(a, b)))
	checkCond(t, "p == null && q == null && r == null", both(both(p, q), r))
	checkCond(t, "p == null || q == null || r == null", either(either(p, q), r))
	checkCond(t, "p == null || q == null && r == null", either(p, both(q, r)))
	checkCond(t, "p == null && q == null || r == null", either(both(p, q), r))
	checkCond(t, "p == null && (q == null || r == null)", both(p, either(q, r)))
	checkCond(t, "p == null && (q == null && r == null)", both(p, both(q, r)))
	checkCond(t, "!p == null && q != null", both(not(p), not(q)))
	checkCond(t, "!(p == null && q == null)", not(both(p, q)))
	checkCond(t, "p == a && a == p", both(equals(val("p"), a), equals(a, val("p"))))
	checkCond(t, "p == nul", equals(val("p"), val("nul")))
}

// P7.2: no keyword is a name, wherever a name stands.
func TestKeywords(t *testing.T) {
	for _, word := range strings.Fields(keywords) {
		for _, s := range []string{
			"fn @() {}", "fn f(@) {}", "fn f(*@) {}", "fn f(x, @) {}", "fn f() { var @; }", "fn f() { ptr @; }",
			"fn f() { *@ = 1; }", "fn f() { x = &@; }", "fn f() { x = *@; }", "fn f() { x = 1 + @; }", "fn f() { x = -@; }",
			"fn f() { x = (@); }", "fn f() { return @; }", "fn f() { x = y[@]; }", "fn f() { y[1] = @; }", "fn f() { g(@); }",
			"fn f() { assert (@ == 1); }", "fn f() { assert (@ == null); }", "fn f() { assert (1 == @); }", "fn f() { if (@ < 1) {} }",
		} {
			checkError(t, strings.ReplaceAll(s, "@", word), strings.Index(s, "@"), api.ErrParse)
		}
		checkGlobalsError(t, "cell "+word+";", 5, api.ErrParse)
		checkGlobalsError(t, "array "+word+"[1];", 6, api.ErrParse)
	}
	for _, word := range strings.Fields("fn var ptr else null cell array") {
		checkError(t, "fn f() { x = 1; "+word+" = 1; }", 16, api.ErrParse)
	}
	for _, word := range strings.Fields("fn var ptr if else while return assert cell array") {
		checkError(t, "fn f() { x = "+word+"; }", 13, api.ErrParse)
	}
}
