package parse

import (
	"augur/api"
)

// block reads statements in braces.
func (p *parser) block() []api.Stmt {
	p.enter("{")
	stmts := p.stmtsToEnd()
	p.leave()
	return stmts
}

// stmtsToEnd reads the statements of a block, and its end.
func (p *parser) stmtsToEnd() []api.Stmt {
	var stmts []api.Stmt
	for !p.accept("}") {
		stmts = append(stmts, p.stmt())
	}
	return stmts
}

// stmt reads a statement.
func (p *parser) stmt() api.Stmt {
	first := p.peek(0)
	// A token with which no statement begins is refused as such, also where
	// there may be no more statements.
	rest := p.stmtOf(first)
	if p.stmts == api.MaxStmts {
		refuse(first, api.ErrLong)
	}
	at := p.stmts
	p.stmts++
	s := rest()
	s.At = at
	return s
}

// stmtOf returns what reads the statement that begins with the next token.
func (p *parser) stmtOf(first api.Token) func() api.Stmt {
	switch first.Text {
	case "*":
		return p.store
	case "return":
		return p.returned
	case "assert":
		return p.assertion
	case "if":
		return p.choice
	case "while":
		return p.loop
	}
	switch {
	case !isName(first):
		refuse(first, api.ErrParse)
	case p.isNamed("["):
		return p.put
	case p.isNamed("("):
		return p.callAlone
	}
	return p.assignment
}

func (p *parser) store() api.Stmt {
	p.expect("*")
	s := api.Stmt{Kind: api.SStore, X: p.name()}
	p.expect("=")
	s.E = p.sum()
	p.expect(";")
	return s
}

func (p *parser) returned() api.Stmt {
	p.expect("return")
	s := api.Stmt{Kind: api.SReturn, E: p.sum()}
	p.expect(";")
	return s
}

func (p *parser) assertion() api.Stmt {
	p.expect("assert")
	s := api.Stmt{Kind: api.SAssert, C: p.test()}
	p.expect(";")
	return s
}

func (p *parser) choice() api.Stmt {
	p.expect("if")
	s := api.Stmt{Kind: api.SIf, C: p.test()}
	s.Then = p.block()
	if p.accept("else") {
		s.Else = p.block()
	}
	return s
}

func (p *parser) loop() api.Stmt {
	p.expect("while")
	s := api.Stmt{Kind: api.SWhile, C: p.test()}
	s.Then = p.block()
	return s
}

// test reads the condition of a statement. Its parentheses are the statement's,
// and do not nest.
func (p *parser) test() *api.Cond {
	p.expect("(")
	c := p.cond()
	p.expect(")")
	return c
}

func (p *parser) put() api.Stmt {
	s := api.Stmt{Kind: api.SPut, Y: p.name()}
	s.E = p.index()
	p.expect("=")
	s.F = p.sum()
	p.expect(";")
	return s
}

// index reads a sum in brackets.
func (p *parser) index() *api.Expr {
	p.expect("[")
	e := p.sum()
	p.expect("]")
	return e
}

func (p *parser) callAlone() api.Stmt {
	s := p.call()
	p.expect(";")
	return s
}

func (p *parser) call() api.Stmt {
	s := api.Stmt{Kind: api.SCall, Y: p.name()}
	s.Args = p.args()
	return s
}

func (p *parser) args() []api.Arg {
	p.expect("(")
	if p.accept(")") {
		return nil
	}
	args := []api.Arg{{E: p.sum()}}
	for p.accept(",") {
		args = append(args, api.Arg{E: p.sum()})
	}
	p.expect(")")
	return args
}

func (p *parser) assignment() api.Stmt {
	x := p.name()
	p.expect("=")
	s := p.value()
	s.X = x
	p.expect(";")
	return s
}

// value reads what is assigned, as a statement without X.
func (p *parser) value() api.Stmt {
	switch {
	case p.accept("null"):
		return api.Stmt{Kind: api.SNull}
	case p.accept("&"):
		return api.Stmt{Kind: api.SAddr, Y: p.name()}
	case p.accept("*"):
		return api.Stmt{Kind: api.SLoad, Y: p.name()}
	case p.isNamed("["):
		s := api.Stmt{Kind: api.SIndex, Y: p.name()}
		s.E = p.index()
		return s
	case p.isNamed("("):
		return p.call()
	}
	return api.Stmt{Kind: api.SAssign, E: p.sum()}
}
