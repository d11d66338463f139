package print

import (
	"encoding/json"
	"math/rand"
	"strings"

	"augur/api"
)

func num(n int64) *api.Expr        { return &api.Expr{Kind: api.ENum, N: n} }
func val(name string) *api.Expr    { return &api.Expr{Kind: api.EVar, Name: name} }
func neg(a *api.Expr) *api.Expr    { return &api.Expr{Kind: api.ENeg, A: a} }
func not(p *api.Cond) *api.Cond    { return &api.Cond{Kind: api.CNot, P: p} }
func isNull(name string) *api.Cond { return &api.Cond{Kind: api.CNull, Name: name} }

func binary(kind int, a, b *api.Expr) *api.Expr {
	return &api.Expr{Kind: kind, A: a, B: b}
}

func compared(kind int, a, b *api.Expr) *api.Cond {
	return &api.Cond{Kind: kind, A: a, B: b}
}

func joined(kind int, p, q *api.Cond) *api.Cond {
	return &api.Cond{Kind: kind, P: p, Q: q}
}

// less is a condition that is told apart by its name.
func less(name string) *api.Cond { return compared(api.CLt, val(name), num(1)) }

// dump writes all fields of a tree. What is nil and what is empty is the same.
func dump(tree any) string {
	b, err := json.Marshal(tree)
	if err != nil {
		panic(err)
	}
	return strings.ReplaceAll(string(b), "[]", "null")
}

// maker makes random trees, also such as no text denotes.
type maker struct{ *rand.Rand }

func (m maker) pick(words ...string) string { return words[m.Intn(len(words))] }

func (m maker) name() string { return m.pick("a", "b", "x", "p", "_", "", "if", "n m") }

func (m maker) expr(depth int) *api.Expr {
	kind := m.Intn(api.ENeg + 1)
	if depth <= 0 {
		kind = m.Intn(2)
	}
	switch kind {
	case api.ENum:
		return num([]int64{0, 7, 10, -1, 1<<63 - 1, -1 << 63}[m.Intn(6)])
	case api.EVar:
		return val(m.name())
	case api.ENeg:
		return neg(m.expr(depth - 1))
	}
	return binary(kind, m.expr(depth-1), m.expr(depth-1))
}

func (m maker) cond(depth int) *api.Cond {
	kind := m.Intn(api.CNull + 1)
	if depth <= 0 {
		kind = m.Intn(api.CGe + 1)
	}
	switch kind {
	case api.CAnd, api.COr:
		return joined(kind, m.cond(depth-1), m.cond(depth-1))
	case api.CNot:
		return not(m.cond(depth - 1))
	case api.CNull:
		return isNull(m.name())
	}
	return compared(kind, m.expr(depth-1), m.expr(depth-1))
}

func (m maker) vars() []api.Var {
	var vars []api.Var
	for range m.Intn(4) {
		vars = append(vars, api.Var{Name: m.name(), Ptr: m.Intn(2) == 0})
	}
	return vars
}

func (m maker) function(depth int) api.Func {
	return api.Func{Name: m.name(), Params: m.vars(), Locals: m.vars(), Body: m.stmts(depth)}
}

func (m maker) stmts(depth int) []api.Stmt {
	var stmts []api.Stmt
	for range m.Intn(5) {
		stmts = append(stmts, m.stmt(depth))
	}
	return stmts
}

// stmt makes a statement. It has more than its kind needs: this must not show.
func (m maker) stmt(depth int) api.Stmt {
	s := api.Stmt{Kind: m.Intn(api.SAssert + 1), X: m.name(), Y: m.name(), E: m.expr(2), F: m.expr(2), C: m.cond(2), At: m.Intn(9)}
	for range m.Intn(4) {
		s.Args = append(s.Args, api.Arg{Ptr: m.Intn(2) == 0, Name: m.name(), E: m.expr(2)})
	}
	if depth > 0 {
		s.Then, s.Else = m.stmts(depth-1), m.stmts(depth-1)
	}
	return s
}
