package flow

import (
	"slices"
	"strings"
	"testing"

	"augur/api"
)

// P10.1: every kind of statement, alone, before and in others.
func TestLower(t *testing.T) {
	for _, x := range []struct{ s, want string }{
		{"", "E 1; X"},
		{"return 1;", "E 1; S0 2; X"},
		{"i = 1; p = &c; q = p; p = null; i = *p; *p = 1; i = t[1]; t[1] = 2; i = g(p); g(); assert (i == 1); return 1;",
			"E 1; S0 2; S1 3; S2 4; S3 5; S4 6; S5 7; S6 8; S7 9; S8 10; S9 11; S10 12; S11 13; X"},
		{"return 1; return 2; i = 1;", "E 1; S0 4; S1 4; S2 4; X"},
		{"if (i == 1) { }", "E 1; T0 2 2; J 3; X"},
		{"if (i == 1) { } else { }", "E 1; T0 2 2; J 3; X"},
		{"if (i == 1) { i = 2; }", "E 1; T0 2 3; S1 3; J 4; X"},
		{"if (i == 1) { } else { i = 2; }", "E 1; T0 3 2; S1 3; J 4; X"},
		{"if (i == 1) { return 1; } else { return 2; }", "E 1; T0 2 3; S1 5; S2 5; J 5; X"},
		{"if (i == 1) { i = 2; i = 3; } else { j = 1; j = 2; } i = 4;", "E 1; T0 2 4; S1 3; S2 6; S3 5; S4 6; J 7; S5 8; X"},
		{"if (i == 1) { } if (i == 2) { }", "E 1; T0 2 2; J 3; T1 4 4; J 5; X"},
		{"if (i == 1) { if (i == 2) { } else { i = 3; } } else { if (j == 2) { j = 3; } }", "E 1; T0 2 5; T1 4 3; S2 4; J 8; T3 6 7; S4 7; J 8; J 9; X"},
		{"while (i == 1) { }", "E 1; T0h 1 2; X"},
		{"while (i == 1) { } i = 2;", "E 1; T0h 1 2; S1 3; X"},
		{"while (i == 1) { i = 2; i = 3; }", "E 1; T0h 2 4; S1 3; S2 1; X"},
		{"while (i == 1) { return 1; }", "E 1; T0h 2 3; S1 3; X"},
		{"while (i == 1) { while (j == 1) { } } while (i == 2) { }", "E 1; T0h 2 3; T1h 2 1; T2h 3 4; X"},
		{"while (i == 1) { if (j == 1) { } }", "E 1; T0h 2 4; T1 3 3; J 1; X"},
		{"while (i == 1) { if (j == 1) { return 1; } else { } j = 2; } return 3;", "E 1; T0h 2 6; T1 3 4; S2 7; J 5; S3 1; S4 7; X"},
		{"if (i == 1) { while (j == 1) { j = 2; } } j = 3;", "E 1; T0 2 4; T1h 3 4; S2 2; J 5; S3 6; X"},
		{"if (i == 1) { } else { while (j == 1) { } }", "E 1; T0 3 2; T1h 2 3; J 4; X"},
	} {
		if got := show(Lower(resolved(t, x.s))); got != x.want {
			t.Errorf("Lower of %q: %s, want %s", x.s, got, x.want)
		}
	}
}

// P10.1: S is the whole statement, and zero where there is none.
func TestStatementsOfNodes(t *testing.T) {
	f := resolved(t, "if (i == 1) { i = g(p, 1, q); } else { while (p == null) { t[i] = j; } }")
	choice := f.Body[0]
	loop := choice.Else[0]
	g := Lower(f)
	for i, want := range []api.Stmt{{}, choice, choice.Then[0], loop, loop.Then[0], {}, {}} {
		if dump(g.Nodes[i].S) != dump(want) {
			t.Errorf("statement of node %d: %s, want %s", i, dump(g.Nodes[i].S), dump(want))
		}
	}
}

// P10.1: a function of as many statements as there may be.
func TestLongFunction(t *testing.T) {
	f := resolved(t, strings.Repeat("i=1;", api.MaxStmts))
	g := Lower(f)
	if len(g.Nodes) != api.MaxStmts+2 || !slices.Equal(g.Nodes[api.MaxStmts].Next, []int{api.MaxStmts + 1}) {
		t.Errorf("%d nodes: %s", len(g.Nodes), show(g))
	}
	checkAsked(t, g)
}

// P10.2: the chapter's examples, successors that are twice there or are no nodes,
// and nodes of no kind.
func TestAsked(t *testing.T) {
	g := Lower(resolved(t, "if (i == 1) { } while (j == 1) { return 1; i = 2; }"))
	odd := api.Graph{Nodes: []api.Node{
		{Kind: 9, Next: []int{2, -1, 5, 2, 0, 2}}, {Next: []int{0, 1, 3}, Head: true}, {Kind: api.NodeExit, Next: []int{4, 2, 4}}, {Head: true}, {Kind: -1, Next: []int{1 << 62, -1 << 63}, Head: true}}}
	alone := api.Graph{Nodes: make([]api.Node, 2)}
	for _, x := range []struct {
		g                   api.Graph
		preds, reach, heads string
	}{
		{g, "[null,[0],[1],[2,5],[3],null,[3,4]]", "[true,true,true,true,true,false,true]", "[3]"},
		{odd, "[[0,1],[1],[0,2],[1],[2]]", "[true,false,true,false,true]", "[1,3,4]"},
		{alone, "[null,null]", "[true,false]", "null"},
		{api.Graph{}, "null", "null", "null"},
	} {
		if got := dump(Preds(x.g)); got != x.preds {
			t.Errorf("Preds of %s: %s, want %s", show(x.g), got, x.preds)
		}
		if got := dump(Reach(x.g)); got != x.reach {
			t.Errorf("Reach of %s: %s, want %s", show(x.g), got, x.reach)
		}
		if got := dump(Heads(x.g)); got != x.heads {
			t.Errorf("Heads of %s: %s, want %s", show(x.g), got, x.heads)
		}
	}
}

// P10.1: functions that Resolve does not return: Lower terminates.
func TestWrongFunctions(t *testing.T) {
	Lower(api.Func{})
	for _, outer := range []int{-1 << 63, -1, 0, 9, 10, 11, 12, 13, 1<<63 - 1} {
		for _, inner := range []int{-1, 9, 10, 11, 13} {
			list := []api.Stmt{{Kind: inner}, {Kind: inner, At: -1, C: &api.Cond{Kind: -1}, Args: make([]api.Arg, 3)}}
			s := api.Stmt{Kind: outer, At: -5, Then: list, Else: list}
			Lower(api.Func{Body: []api.Stmt{s, {Kind: outer}, s}})
		}
	}
}

// P10.1, P10.2: as many nested parts, and as long lists, as the rules allow.
func TestDeepAndLong(t *testing.T) {
	for _, kind := range []int{api.SIf, api.SWhile} {
		body := []api.Stmt{{At: 1}}
		for i := range 4000 {
			body = []api.Stmt{{Kind: kind, C: &api.Cond{}, Then: body, At: i}}
			if kind == api.SIf && i%2 == 0 {
				body[0].Then, body[0].Else = nil, body[0].Then
			}
		}
		g := Lower(api.Func{Body: body})
		if want := width(body) + 2; len(g.Nodes) != want {
			t.Errorf("%d nodes, want %d", len(g.Nodes), want)
		}
		if reached := Reach(g); slices.Contains(reached, false) || len(Preds(g)) != len(g.Nodes) {
			t.Error("a node is not reached")
		}
	}
	g := Lower(api.Func{Body: make([]api.Stmt, 300000)})
	if reached := Reach(g); len(reached) != 300002 || slices.Contains(reached, false) {
		t.Error("a node of a long list is not reached")
	}
}

// P10.1, P10.2: arguments stay as they are, also what lies behind their ends, and
// results share no lists of numbers.
func TestArgumentsAndResults(t *testing.T) {
	f := resolved(t, "if (i == 1) { i = 2; } while (j == 1) { j = 2; return 1; }")
	room := append(slices.Clone(f.Body), api.Stmt{Kind: api.SLoad, At: 77}, api.Stmt{At: 78})
	f.Body = room[:len(f.Body)]
	before := dump(room)
	g, want := Lower(f), show(Lower(f))
	for i := range g.Nodes {
		for k := range g.Nodes[i].Next {
			g.Nodes[i].Next[k] = -7
		}
		g.Nodes[i].Next = append(g.Nodes[i].Next, -8)
		g.Nodes[i].S = api.Stmt{At: 55}
	}
	if dump(room) != before || show(Lower(f)) != want {
		t.Errorf("the function has become %s", dump(room))
	}
	g = Lower(f)
	nodes := append(slices.Clone(g.Nodes), api.Node{Kind: 3, Next: []int{1}})
	for i := range nodes {
		nodes[i].Next = append(slices.Clone(nodes[i].Next), 9, 9)[:len(nodes[i].Next)]
	}
	g.Nodes = nodes[:len(g.Nodes)]
	before = dump(nodes)
	preds := Preds(g)
	asked := dump(preds)
	for i, list := range preds {
		if _ = append(list, -1); dump(preds) != asked {
			t.Errorf("the list of node %d shares memory", i)
		}
	}
	for _, list := range preds {
		for k := range list {
			list[k] = -9
		}
	}
	for i, r := range Reach(g) {
		Reach(g)[i] = !r
	}
	for i := range Heads(g) {
		Heads(g)[i] = -1
	}
	checkAsked(t, g)
	if dump(nodes) != before || dump(Preds(g)) != asked {
		t.Errorf("the graph has become %s", dump(nodes))
	}
	for i := range nodes {
		if spare := nodes[i].Next[:len(nodes[i].Next)+2]; i < len(g.Nodes) && (spare[len(spare)-1] != 9 || spare[len(spare)-2] != 9) {
			t.Errorf("room behind the successors of node %d: %v", i, spare)
		}
	}
}
