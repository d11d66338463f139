package names

import (
	"augur/api"
)

// visitor goes through statements in the order of their numbers. Its closures
// tell what becomes of what it meets.
type visitor struct {
	onStmt func(s *api.Stmt) // before what is in the statement
	onName func(name string) // in an expression
	onNull func(name string) // tested for null
}

func (v *visitor) stmts(stmts []api.Stmt) {
	for i := range stmts {
		s := &stmts[i]
		v.onStmt(s)
		v.parts(s)
		v.stmts(s.Then)
		v.stmts(s.Else)
	}
}

// parts visits the expressions and the condition of a statement. It need not ask
// for the kind: what a kind does not need is nil.
func (v *visitor) parts(s *api.Stmt) {
	v.expr(s.E)
	v.expr(s.F)
	for _, a := range s.Args {
		v.expr(a.E)
	}
	v.cond(s.C)
}

func (v *visitor) expr(e *api.Expr) {
	if e == nil {
		return
	}
	if e.Kind == api.EVar {
		v.onName(e.Name)
	}
	v.expr(e.A)
	v.expr(e.B)
}

func (v *visitor) cond(c *api.Cond) {
	if c == nil {
		return
	}
	if c.Kind == api.CNull {
		v.onNull(c.Name)
	}
	v.expr(c.A)
	v.expr(c.B)
	v.cond(c.P)
	v.cond(c.Q)
}
