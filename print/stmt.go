package print

import (
	"augur/api"
)

// printer writes what stands in the lines of its writer.
type printer struct {
	writer
}

func (p *printer) params(params []api.Var) {
	for i, v := range params {
		if i > 0 {
			p.put(", ")
		}
		if v.Ptr {
			p.put("*")
		}
		p.put(v.Name)
	}
}

func (p *printer) locals(locals []api.Var) {
	for _, v := range locals {
		if v.Ptr {
			p.put("ptr ", v.Name, ";")
		} else {
			p.put("var ", v.Name, ";")
		}
		p.end()
	}
}

func (p *printer) stmts(stmts []api.Stmt) {
	for _, s := range stmts {
		p.stmt(s)
		p.end()
	}
}

func (p *printer) stmt(s api.Stmt) {
	switch s.Kind {
	case api.SIf:
		p.choice(s)
	case api.SWhile:
		p.put("while (")
		p.cond(s.C)
		p.put(") ")
		p.block(s.Then)
	case api.SAssert:
		p.put("assert (")
		p.cond(s.C)
		p.put(");")
	default:
		p.step(s)
		p.put(";")
	}
}

func (p *printer) choice(s api.Stmt) {
	p.put("if (")
	p.cond(s.C)
	p.put(") ")
	p.block(s.Then)
	if len(s.Else) > 0 {
		p.put(" else ")
		p.block(s.Else)
	}
}

func (p *printer) block(stmts []api.Stmt) {
	p.open()
	p.stmts(stmts)
	p.close()
}

// step writes a statement without conditions, up to its semicolon.
func (p *printer) step(s api.Stmt) {
	switch s.Kind {
	case api.SAssign:
		p.put(s.X, " = ")
		p.expr(s.E)
	case api.SAddr:
		p.put(s.X, " = &", s.Y)
	case api.SCopy:
		p.put(s.X, " = ", s.Y)
	case api.SNull:
		p.put(s.X, " = null")
	case api.SLoad:
		p.put(s.X, " = *", s.Y)
	case api.SStore:
		p.put("*", s.X, " = ")
		p.expr(s.E)
	case api.SIndex:
		p.put(s.X, " = ")
		p.element(s)
	case api.SPut:
		p.element(s)
		p.put(" = ")
		p.expr(s.F)
	case api.SCall:
		p.call(s)
	case api.SReturn:
		p.put("return ")
		p.expr(s.E)
	}
}

// element writes the element of an array that a statement reads or sets.
func (p *printer) element(s api.Stmt) {
	p.put(s.Y, "[")
	p.expr(s.E)
	p.put("]")
}

func (p *printer) call(s api.Stmt) {
	if s.X != "" {
		p.put(s.X, " = ")
	}
	p.put(s.Y, "(")
	for i, a := range s.Args {
		if i > 0 {
			p.put(", ")
		}
		if a.Ptr {
			p.put(a.Name)
		} else {
			p.expr(a.E)
		}
	}
	p.put(")")
}
