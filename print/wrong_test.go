package print

import (
	"math/rand"
	"strings"
	"testing"

	"augur/api"
)

// P8.1: expressions and conditions of unknown kinds, or without their parts: the
// functions terminate.
func TestWrongTrees(t *testing.T) {
	for _, kind := range []int{-1 << 63, -1, 0, 1, 2, 3, 4, 5, 6, 7, 8, 9, 10, 11, 1<<63 - 1} {
		for _, part := range []*api.Expr{nil, {Kind: -1}, {Kind: 8}, {Kind: kind}} {
			Expr(&api.Expr{Kind: kind, A: part})
			Expr(&api.Expr{Kind: kind, B: part})
			Expr(&api.Expr{Kind: kind, A: part, B: part})
			Cond(&api.Cond{Kind: kind, A: part})
			Cond(&api.Cond{Kind: kind, B: part})
		}
		for _, part := range []*api.Cond{nil, {Kind: -1}, {Kind: 10}, {Kind: kind}} {
			Cond(&api.Cond{Kind: kind, P: part})
			Cond(&api.Cond{Kind: kind, Q: part})
			Cond(&api.Cond{Kind: kind, P: part, Q: part})
		}
	}
	Expr(nil)
	Cond(nil)
}

// P8.2: statements of unknown kinds, or without their parts: Func terminates.
func TestWrongStmts(t *testing.T) {
	parts := []api.Stmt{{}, {E: &api.Expr{Kind: -1}, C: &api.Cond{Kind: -1}, Args: []api.Arg{{}, {Ptr: true}}}, {Then: []api.Stmt{{Kind: -1}}, Else: []api.Stmt{{Kind: 13}}}}
	for _, kind := range []int{-1 << 63, -1, 0, 1, 2, 3, 4, 5, 6, 7, 8, 9, 10, 11, 12, 13, 1<<63 - 1} {
		for _, s := range parts {
			s.Kind = kind
			Func(api.Func{Body: []api.Stmt{s, s}})
		}
	}
}

// P8.1, P8.2: names are written as they are, whatever they are.
func TestWrongNames(t *testing.T) {
	for _, name := range []string{"", "if", "a b", "(", "\n", "\x00\xff", strings.Repeat("long", 1000)} {
		checkExpr(t, binary(api.EMul, val(name), val(name)), name+" * "+name)
		checkCond(t, isNull(name), name+" == null")
		checkFunc(t, api.Func{Name: name, Params: []api.Var{{Name: name, Ptr: true}}, Locals: []api.Var{{Name: name}}}, "fn "+name+"(*"+name+") {", "\tvar "+name+";", "}")
		checkStmt(t, api.Stmt{Kind: api.SCall, Y: name, Args: []api.Arg{{Ptr: true, Name: name}}}, name+"("+name+");")
		if got, want := Globals(api.Globals{Cells: []string{name}}), "cell "+name+";\n"; got != want {
			t.Errorf("Globals: %q, want %q", got, want)
		}
	}
}

// P8.1, P8.2: more nested parts, and more of them, than a text may have.
func TestBeyondLimits(t *testing.T) {
	const deep = 4000
	left, right, negs, nots := val("a"), val("a"), val("a"), isNull("p")
	body := []api.Stmt{}
	for range deep {
		left, right, negs, nots = binary(api.ESub, left, num(1)), binary(api.ESub, num(1), right), neg(negs), not(nots)
	}
	checkExpr(t, left, "a"+strings.Repeat(" - 1", deep))
	checkExpr(t, right, strings.Repeat("1 - (", deep-1)+"1 - a"+strings.Repeat(")", deep-1))
	checkExpr(t, negs, strings.Repeat("-", deep)+"a")
	checkCond(t, nots, strings.Repeat("!", deep-1)+"p != null")
	for range 300 {
		body = []api.Stmt{{Kind: api.SWhile, C: less("a"), Then: body}, {Kind: api.SNull, X: "p"}}
	}
	f := api.Func{Name: "f", Body: body}
	if Func(f) != funcModel(f) {
		t.Error("nested loops")
	}
	many := api.Func{Name: "f", Body: make([]api.Stmt, 5000), Params: make([]api.Var, 50), Locals: make([]api.Var, 50)}
	for i := range many.Body {
		many.Body[i] = api.Stmt{Kind: api.SNull, X: "p"}
	}
	if Func(many) != funcModel(many) {
		t.Error("many statements")
	}
}

// P8.1, P8.2: the arguments stay as they are, and a second call writes the same.
func TestArgumentsStay(t *testing.T) {
	m := maker{rand.New(rand.NewSource(84))}
	for range 200 {
		f, e, c := m.function(2), m.expr(4), m.cond(4)
		g := api.Globals{Cells: []string{m.name(), m.name()}, Arrays: []api.Array{{Name: m.name(), Len: 3}}}
		before := dump(f) + dump(e) + dump(c) + dump(g)
		first := Func(f) + Expr(e) + Cond(c) + Globals(g)
		if again := Func(f) + Expr(e) + Cond(c) + Globals(g); again != first {
			t.Fatalf("first %q\nthen  %q", first, again)
		}
		if after := dump(f) + dump(e) + dump(c) + dump(g); after != before {
			t.Fatalf("before %s\nafter  %s", before, after)
		}
	}
}
