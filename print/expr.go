package print

import (
	"strconv"

	"augur/api"
)

// How strongly something holds its parts together.
const (
	bindsSum = iota
	bindsProduct
	bindsUnary
)

// expr writes an expression, or nothing where one is missing.
func (p *printer) expr(e *api.Expr) {
	if e == nil {
		return
	}
	switch e.Kind {
	case api.ENum:
		p.put(strconv.FormatInt(e.N, 10))
	case api.EVar:
		p.put(e.Name)
	case api.ENeg:
		p.put("-")
		p.operand(e.A, bindsUnary)
	case api.EAdd, api.ESub, api.EMul, api.EDiv, api.EMod:
		// Operators of one strength are grouped from the left: only what stands
		// on the right has to bind more.
		binds := exprBinds(e)
		p.operand(e.A, binds)
		p.put(operator(e.Kind))
		p.operand(e.B, binds+1)
	}
}

// operand writes an expression, in parentheses if it binds less than it has to.
func (p *printer) operand(e *api.Expr, least int) {
	if exprBinds(e) >= least {
		p.expr(e)
		return
	}
	p.put("(")
	p.expr(e)
	p.put(")")
}

func exprBinds(e *api.Expr) int {
	if e == nil {
		return bindsUnary
	}
	switch e.Kind {
	case api.EAdd, api.ESub:
		return bindsSum
	case api.EMul, api.EDiv, api.EMod:
		return bindsProduct
	}
	return bindsUnary
}

func operator(kind int) string {
	switch kind {
	case api.EAdd:
		return " + "
	case api.ESub:
		return " - "
	case api.EMul:
		return " * "
	case api.EDiv:
		return " / "
	}
	return " % "
}
