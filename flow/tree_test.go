package flow

import (
	"encoding/json"
	"fmt"
	"math/rand"
	"strings"
	"testing"

	"augur/api"
	"augur/names"
	"augur/parse"
)

// resolved returns the function f of so many statements.
func resolved(t *testing.T, stmts string) api.Func {
	t.Helper()
	f, at, e := parse.Func("fn f(i, *p) { var j; ptr q; " + stmts + " }")
	if e != api.OK {
		t.Fatalf("parse.Func of %q: %d, %v", stmts, at, e)
	}
	f, at, e = names.Resolve(f, "f")
	if e != api.OK {
		t.Fatalf("names.Resolve of %q: %d, %v", stmts, at, e)
	}
	return f
}

// dump writes all fields of a value. What is nil and what is empty is the same.
func dump(value any) string {
	b, err := json.Marshal(value)
	if err != nil {
		panic(err)
	}
	return strings.ReplaceAll(string(b), "[]", "null")
}

// show writes a graph: of each node its kind, the number of its statement, h if it
// is a head, and its successors.
func show(g api.Graph) string {
	var nodes []string
	for _, n := range g.Nodes {
		s := fmt.Sprint(n.Kind)
		if n.Kind >= 0 && n.Kind <= api.NodeJoin {
			s = string("ESTXJ"[n.Kind])
		}
		if n.Kind == api.NodeStmt || n.Kind == api.NodeTest {
			s += fmt.Sprint(n.S.At)
		}
		if n.Head {
			s += "h"
		}
		for _, k := range n.Next {
			s += fmt.Sprint(" ", k)
		}
		nodes = append(nodes, s)
	}
	return strings.Join(nodes, "; ")
}

// maker makes random statements, and numbers them.
type maker struct {
	*rand.Rand
	made int
}

func (m *maker) stmts(depth int) []api.Stmt {
	var stmts []api.Stmt
	for range m.Intn(5) {
		stmts = append(stmts, m.stmt(depth))
	}
	return stmts
}

func (m *maker) stmt(depth int) api.Stmt {
	name := fmt.Sprint("x", m.Intn(9))
	s := api.Stmt{Kind: m.Intn(api.SAssert + 1), X: name, E: &api.Expr{Kind: api.EVar, Name: name}, Args: []api.Arg{{Ptr: true, Name: name}}, At: m.made}
	if m.Intn(2) == 0 {
		s.Kind = []int{api.SIf, api.SWhile, api.SReturn}[m.Intn(3)]
	}
	m.made++
	if depth > 0 && (s.Kind == api.SIf || s.Kind == api.SWhile) {
		s.C = &api.Cond{Kind: api.CNull, Name: name}
		s.Then = m.stmts(depth - 1)
		if s.Kind == api.SIf {
			s.Else = m.stmts(depth - 1)
		}
	}
	return s
}

// randomGraph makes a graph with successors that are nodes, and some that are none.
func randomGraph(r *rand.Rand) api.Graph {
	nodes := make([]api.Node, r.Intn(12))
	for i := range nodes {
		nodes[i].Kind = r.Intn(7) - 1
		nodes[i].Head = r.Intn(3) == 0
		for range r.Intn(4) {
			k := r.Intn(len(nodes)+4) - 2
			if r.Intn(9) == 0 {
				k = []int{-1 << 63, 1<<63 - 1, 1 << 32, len(nodes), -1}[r.Intn(5)]
			}
			nodes[i].Next = append(nodes[i].Next, k)
		}
	}
	return api.Graph{Nodes: nodes}
}
