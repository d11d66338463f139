package names

import (
	"slices"
	"strings"
	"testing"

	"augur/api"
)

// P9.1: functions that Resolve has returned, changed by hand.
func TestResolvedByHand(t *testing.T) {
	is := func(name string) api.Arg { return api.Arg{Ptr: true, Name: name} }
	for _, x := range []struct {
		s     api.Stmt
		right bool
	}{
		{api.Stmt{Kind: api.SCopy, X: "p", Y: "q"}, true},
		{api.Stmt{Kind: api.SCopy, X: "p", Y: "p"}, true},
		{api.Stmt{Kind: api.SCopy, X: "i", Y: "q"}, false},
		{api.Stmt{Kind: api.SCopy, X: "p", Y: "i"}, false},
		{api.Stmt{Kind: api.SCopy, X: "c", Y: "q"}, false},
		{api.Stmt{Kind: api.SCopy, X: "p", Y: "c"}, false},
		{api.Stmt{Kind: api.SCopy, X: "i", Y: "j"}, false},
		{api.Stmt{Kind: api.SCall, Y: "g", Args: []api.Arg{is("p"), {E: val("i")}, is("q")}}, true},
		{api.Stmt{Kind: api.SCall, Y: "g", Args: []api.Arg{is("p"), {E: val("q")}}}, true},
		{api.Stmt{Kind: api.SCall, Y: "g", Args: []api.Arg{is("i")}}, false},
		{api.Stmt{Kind: api.SCall, Y: "g", Args: []api.Arg{is("c")}}, false},
		{api.Stmt{Kind: api.SCall, Y: "g", Args: []api.Arg{is("p"), is("i"), is("q")}}, false},
		{api.Stmt{Kind: api.SCall, Y: "g", Args: []api.Arg{is("p"), {E: sum("i", "q")}}}, false},
	} {
		f := parsed(t, head+"i = 1; }")
		x.s.At = 7
		f.Body = append(f.Body, x.s)
		got, at, e := Resolve(f, "f")
		if x.right && (e != api.OK || at != 0 || len(got.Body) != 2) || !x.right && (e != api.ErrType || at != 7 || dump(got) != dump(api.Func{})) {
			t.Errorf("%s: %d, %v, %s", dump(x.s), at, e, dump(got))
		}
	}
}

// P9.1, P9.2: trees that no text denotes: the functions terminate.
func TestWrongTrees(t *testing.T) {
	exprs := []*api.Expr{nil, {Kind: -1}, {Kind: 8, A: val("p")}, {Kind: api.EAdd}, {Kind: api.ENeg}, {Kind: api.EVar, A: val("i"), B: val("p")}, val(""), val("p")}
	conds := []*api.Cond{nil, {Kind: -1}, {Kind: 10, P: isNull("p")}, {Kind: api.CAnd}, {Kind: api.CNot}, {Kind: api.CLt}, {Kind: api.CNull}, isNull("p")}
	for _, kind := range []int{-1 << 63, -1, 0, 1, 2, 3, 4, 5, 6, 7, 8, 9, 10, 11, 12, 13, 1<<63 - 1} {
		for i := range exprs {
			for _, x := range []string{"", "i", "p", "c"} {
				args := []api.Arg{{}, {Ptr: true}, {Ptr: true, Name: x, E: exprs[i]}, {Name: x, E: exprs[i]}}
				s := api.Stmt{Kind: kind, X: x, Y: x, E: exprs[i], F: exprs[i], C: conds[i], Args: args, At: -1 << 63}
				s.Then = []api.Stmt{s, {Kind: kind}}
				s.Else = []api.Stmt{{Kind: kind, X: "p"}, s}
				f := api.Func{Name: "f", Params: []api.Var{{Name: "i"}, {Name: "p", Ptr: true}}, Body: []api.Stmt{s, {Kind: kind}, s}}
				Resolve(f, "f")
				Cells(f)
				Arrays(f)
				Calls(f)
			}
		}
	}
	if f, at, e := Resolve(api.Func{}, ""); e != api.OK || at != 0 || dump(f) != dump(api.Func{}) {
		t.Errorf("Resolve of nothing: %d, %v, %s", at, e, dump(f))
	}
}

// P9.1, P9.2: more nested parts, and more of them, than a text may have.
func TestBeyondLimits(t *testing.T) {
	const deep = 4000
	left, right := val("a"), val("b")
	condition := isNull("p")
	for range deep {
		left = &api.Expr{Kind: api.ESub, A: left, B: val("c")}
		right = &api.Expr{Kind: api.ENeg, A: right}
		condition = &api.Cond{Kind: api.CNot, P: condition}
	}
	f := api.Func{Name: "f", Params: []api.Var{{Name: "p", Ptr: true}}}
	for i := range 3 * deep {
		f.Body = append(f.Body, api.Stmt{Kind: api.SNull, X: "p", At: i})
		f.Locals = append(f.Locals, api.Var{Name: strings.Repeat("n", i%100) + string(rune(0x100+i))})
	}
	body := []api.Stmt{{Kind: api.SPut, Y: "t", E: left, F: right}, {Kind: api.SCall, Y: "g", Args: make([]api.Arg, deep)}}
	for range deep {
		body = []api.Stmt{{Kind: api.SWhile, C: isNull("p"), Then: body}}
	}
	f.Body = append(f.Body, api.Stmt{Kind: api.SAssert, C: condition})
	f.Body = append(f.Body, body...)
	if _, at, e := Resolve(f, "f"); e != api.OK || at != 0 {
		t.Errorf("Resolve: %d, %v", at, e)
	}
	checkNames(t, f, "a b c", "t", "g")
}

// P9.1, P9.2: names are what they are, whichever bytes they have.
func TestAnyNames(t *testing.T) {
	for _, name := range []string{"if", "a b", "\x00\xff", strings.Repeat("long", 1000), "globals"} {
		f := api.Func{Name: "f", Body: []api.Stmt{{Kind: api.SAssign, X: name, E: val("a")}, {Kind: api.SAddr, X: "p", Y: name}}, Locals: []api.Var{{Name: "p", Ptr: true}}}
		if got := Cells(f); len(got) != 2 || !slices.Contains(got, name) {
			t.Errorf("Cells: %q", got)
		}
		if _, _, e := Resolve(f, "f"); e != api.OK {
			t.Errorf("Resolve: %v", e)
		}
		f.Params = []api.Var{{Name: name}}
		if got := Cells(f); !slices.Equal(got, []string{"a"}) {
			t.Errorf("Cells: %q", got)
		}
		if _, at, e := Resolve(f, "f"); e != api.ErrType {
			t.Errorf("Resolve: %d, %v", at, e)
		}
		if Check(api.Globals{Cells: []string{"a", name}, Arrays: []api.Array{{Name: name}}}) != api.ErrTwice {
			t.Errorf("Check of %q", name)
		}
	}
}

// roomy returns a copy of a list that has spare capacity, with something in it.
func roomy[E any](list []E, spare E) []E {
	return append(append(make([]E, 0, len(list)+2), list...), spare, spare)[:len(list)]
}

// roomyStmts does so with all lists of statements and arguments.
func roomyStmts(stmts []api.Stmt) []api.Stmt {
	stmts = roomy(stmts, api.Stmt{X: "spare"})
	for i, s := range stmts {
		stmts[i].Args = roomy(s.Args, api.Arg{Name: "spare"})
		stmts[i].Then, stmts[i].Else = roomyStmts(s.Then), roomyStmts(s.Else)
	}
	return stmts
}

// full writes lists of statements with their spare capacity.
func full(stmts []api.Stmt) string {
	stmts = slices.Clone(stmts[:cap(stmts)])
	s := dump(stmts)
	for _, x := range stmts {
		s += dump(x.Args[:cap(x.Args)]) + full(x.Then) + full(x.Else)
	}
	return s
}

func fullFunc(f api.Func) string {
	return dump(f) + dump(f.Params[:cap(f.Params)]) + dump(f.Locals[:cap(f.Locals)]) + full(f.Body)
}

// scribble changes lists of statements, and what is in their spare capacity.
func scribble(stmts []api.Stmt) {
	for i := range stmts {
		scribble(stmts[i].Then)
		scribble(stmts[i].Else)
		for k := range stmts[i].Args {
			stmts[i].Args[k] = api.Arg{Name: "changed"}
		}
		_ = append(stmts[i].Args, api.Arg{Name: "changed"})
		stmts[i] = api.Stmt{X: "changed"}
	}
	_ = append(stmts, api.Stmt{X: "changed"})
}

const busy = head + "p = q; g(p, i, q); if (p == null) { q = p; i = g(q); } else { while (i < c) { p = p; t[c] = g; } } i = t[i]; return c; }"

// P9.1, P9.2: the arguments stay as they are, and results do not hang on them.
func TestArgumentsStay(t *testing.T) {
	for _, s := range []string{busy, strings.Replace(busy, "return c", "return p", 1), "fn f() {}"} {
		f := parsed(t, s)
		f.Params, f.Locals = roomy(f.Params, api.Var{Name: "spare"}), roomy(f.Locals, api.Var{Name: "spare"})
		f.Body = roomyStmts(f.Body)
		before := fullFunc(f)
		got, at, e := Resolve(f, "f")
		cells, arrays, calls := Cells(f), Arrays(f), Calls(f)
		if again, againAt, againE := Resolve(f, "f"); dump(again) != dump(got) || againAt != at || againE != e {
			t.Errorf("first %d, %v, %s\nthen  %d, %v, %s", at, e, dump(got), againAt, againE, dump(again))
		}
		if !slices.Equal(Cells(f), cells) || !slices.Equal(Arrays(f), arrays) || !slices.Equal(Calls(f), calls) {
			t.Errorf("the lists of %q change", s)
		}
		result := dump(got)
		if after := fullFunc(f); after != before {
			t.Errorf("before %s\nafter  %s", before, after)
		}
		other, _, _ := Resolve(f, "f")
		scribble(other.Body)
		for i := range other.Params {
			other.Params[i].Name = "changed"
		}
		for i := range other.Locals {
			other.Locals[i].Name = "changed"
		}
		if after := fullFunc(f); after != before || dump(got) != result {
			t.Errorf("before %s\nafter  %s", before, after)
		}
		scribble(f.Body)
		clear(f.Params[:cap(f.Params)])
		clear(f.Locals[:cap(f.Locals)])
		if dump(got) != result {
			t.Errorf("the result was %s\nand is %s", result, dump(got))
		}
	}
	g := api.Globals{Cells: roomy([]string{"b", "c", "a"}, "spare"), Arrays: roomy([]api.Array{{Name: "e"}, {Name: "d"}}, api.Array{Name: "spare"})}
	before := dump(g) + dump(g.Cells[:5]) + dump(g.Arrays[:4])
	Check(g)
	if after := dump(g) + dump(g.Cells[:5]) + dump(g.Arrays[:4]); after != before {
		t.Errorf("before %s\nafter  %s", before, after)
	}
}
