package print

import (
	"strings"
	"testing"

	"augur/api"
)

func checkFunc(t *testing.T, f api.Func, lines ...string) {
	t.Helper()
	want := strings.Join(lines, "\n") + "\n"
	if got := Func(f); got != want {
		t.Errorf("Func(%s)\ngot  %q\nwant %q", dump(f), got, want)
	}
}

// checkStmt checks that a statement is written as these lines, which are given
// without the tab of the function's block.
func checkStmt(t *testing.T, s api.Stmt, lines ...string) {
	t.Helper()
	want := []string{"fn f() {"}
	for _, line := range lines {
		want = append(want, "\t"+line)
	}
	checkFunc(t, api.Func{Name: "f", Body: []api.Stmt{s}}, append(want, "}")...)
}

// P8.2: the first line, the locals and the last line.
func TestHeads(t *testing.T) {
	x, p := api.Var{Name: "x"}, api.Var{Name: "p", Ptr: true}
	checkFunc(t, api.Func{}, "fn () {", "}")
	checkFunc(t, api.Func{Name: "f"}, "fn f() {", "}")
	checkFunc(t, api.Func{Name: "f", Params: []api.Var{x}}, "fn f(x) {", "}")
	checkFunc(t, api.Func{Name: "f", Params: []api.Var{x, p}}, "fn f(x, *p) {", "}")
	checkFunc(t, api.Func{Name: "g", Params: []api.Var{p, p, x}}, "fn g(*p, *p, x) {", "}")
	checkFunc(t, api.Func{Name: "f", Locals: []api.Var{x, p}}, "fn f() {", "\tvar x;", "\tptr p;", "}")
	checkFunc(t, api.Func{Name: "f", Params: []api.Var{p}, Locals: []api.Var{p, x}, Body: []api.Stmt{{Kind: api.SNull, X: "p"}}},
		"fn f(*p) {", "\tptr p;", "\tvar x;", "\tp = null;", "}")
}

// P8.2: the example of the chapter.
func TestCopyAndCall(t *testing.T) {
	f := api.Func{Name: "f", Params: []api.Var{{Name: "x"}, {Name: "p", Ptr: true}}, Body: []api.Stmt{
		{Kind: api.SCopy, X: "p", Y: "q"},
		{Kind: api.SCall, Y: "g", Args: []api.Arg{{Ptr: true, Name: "q"}, {E: num(5)}}, At: 1},
	}}
	checkFunc(t, f, "fn f(x, *p) {", "\tp = q;", "\tg(q, 5);", "}")
}

// P8.2: every kind of statement on one line.
func TestSteps(t *testing.T) {
	e, f := binary(api.EAdd, val("a"), num(1)), neg(val("b"))
	checkStmt(t, api.Stmt{Kind: api.SAssign, X: "x", E: e}, "x = a + 1;")
	checkStmt(t, api.Stmt{Kind: api.SAddr, X: "p", Y: "x"}, "p = &x;")
	checkStmt(t, api.Stmt{Kind: api.SCopy, X: "p", Y: "q"}, "p = q;")
	checkStmt(t, api.Stmt{Kind: api.SNull, X: "p"}, "p = null;")
	checkStmt(t, api.Stmt{Kind: api.SLoad, X: "x", Y: "p"}, "x = *p;")
	checkStmt(t, api.Stmt{Kind: api.SStore, X: "p", E: e}, "*p = a + 1;")
	checkStmt(t, api.Stmt{Kind: api.SIndex, X: "x", Y: "t", E: e}, "x = t[a + 1];")
	checkStmt(t, api.Stmt{Kind: api.SPut, Y: "t", E: e, F: f}, "t[a + 1] = -b;")
	checkStmt(t, api.Stmt{Kind: api.SReturn, E: e}, "return a + 1;")
	checkStmt(t, api.Stmt{Kind: api.SAssert, C: less("a")}, "assert (a < 1);")
}

// P8.2: calls with and without a result and arguments.
func TestCalls(t *testing.T) {
	q, e := api.Arg{Ptr: true, Name: "q", E: num(8)}, api.Arg{E: binary(api.EMul, val("a"), num(2)), Name: "unused"}
	checkStmt(t, api.Stmt{Kind: api.SCall, Y: "f"}, "f();")
	checkStmt(t, api.Stmt{Kind: api.SCall, X: "x", Y: "f"}, "x = f();")
	checkStmt(t, api.Stmt{Kind: api.SCall, Y: "f", Args: []api.Arg{q}}, "f(q);")
	checkStmt(t, api.Stmt{Kind: api.SCall, Y: "f", Args: []api.Arg{e, q}}, "f(a * 2, q);")
	checkStmt(t, api.Stmt{Kind: api.SCall, X: "x", Y: "f", Args: []api.Arg{q, e, e}}, "x = f(q, a * 2, a * 2);")
}

// P8.2: if and while, with and without statements in them.
func TestBlocks(t *testing.T) {
	one, two := []api.Stmt{{Kind: api.SNull, X: "p"}}, []api.Stmt{{Kind: api.SNull, X: "q"}, {Kind: api.SReturn, E: num(1)}}
	c := less("a")
	checkStmt(t, api.Stmt{Kind: api.SIf, C: c}, "if (a < 1) {", "}")
	checkStmt(t, api.Stmt{Kind: api.SIf, C: c, Else: []api.Stmt{}}, "if (a < 1) {", "}")
	checkStmt(t, api.Stmt{Kind: api.SIf, C: c, Then: one}, "if (a < 1) {", "\tp = null;", "}")
	checkStmt(t, api.Stmt{Kind: api.SIf, C: c, Else: one}, "if (a < 1) {", "} else {", "\tp = null;", "}")
	checkStmt(t, api.Stmt{Kind: api.SIf, C: c, Then: one, Else: two}, "if (a < 1) {", "\tp = null;", "} else {", "\tq = null;", "\treturn 1;", "}")
	checkStmt(t, api.Stmt{Kind: api.SWhile, C: c}, "while (a < 1) {", "}")
	checkStmt(t, api.Stmt{Kind: api.SWhile, C: c, Then: two, Else: one}, "while (a < 1) {", "\tq = null;", "\treturn 1;", "}")
}

// P8.2: a tab for each block around a line.
func TestTabs(t *testing.T) {
	inner := []api.Stmt{{Kind: api.SNull, X: "p"}}
	loop := []api.Stmt{{Kind: api.SWhile, C: less("b"), Then: inner}, {Kind: api.SNull, X: "q"}}
	checkStmt(t, api.Stmt{Kind: api.SIf, C: less("a"), Then: loop, Else: loop},
		"if (a < 1) {", "\twhile (b < 1) {", "\t\tp = null;", "\t}", "\tq = null;",
		"} else {", "\twhile (b < 1) {", "\t\tp = null;", "\t}", "\tq = null;", "}")
}

// P8.2: cells, then arrays, each in order.
func TestGlobals(t *testing.T) {
	for _, c := range []struct {
		g    api.Globals
		want string
	}{
		{api.Globals{}, ""},
		{api.Globals{Cells: []string{}, Arrays: []api.Array{}}, ""},
		{api.Globals{Cells: []string{"c"}}, "cell c;\n"},
		{api.Globals{Arrays: []api.Array{{Name: "a", Len: 10}}}, "array a[10];\n"},
		{api.Globals{Cells: []string{"z", "b"}, Arrays: []api.Array{{Name: "y", Len: 1}, {Name: "a", Len: 1 << 20}}}, "cell z;\ncell b;\narray y[1];\narray a[1048576];\n"},
		{api.Globals{Cells: []string{"b", "b"}, Arrays: []api.Array{{Name: "b"}, {Len: -1}}}, "cell b;\ncell b;\narray b[0];\narray [-1];\n"},
	} {
		if got := Globals(c.g); got != c.want {
			t.Errorf("Globals(%s) = %q, want %q", dump(c.g), got, c.want)
		}
	}
}
