package print

import (
	"augur/api"
)

// cond writes a condition, or nothing where one is missing.
func (p *printer) cond(c *api.Cond) {
	if c == nil {
		return
	}
	switch c.Kind {
	case api.CEq, api.CNe, api.CLt, api.CLe, api.CGt, api.CGe:
		p.expr(c.A)
		p.put(comparison(c.Kind))
		p.expr(c.B)
	case api.CAnd:
		p.part(c.P, isKind(c.P, api.COr))
		p.put(" && ")
		p.part(c.Q, isKind(c.Q, api.COr) || isKind(c.Q, api.CAnd))
	case api.COr:
		p.part(c.P, false)
		p.put(" || ")
		p.part(c.Q, isKind(c.Q, api.COr))
	case api.CNot:
		p.not(c.P)
	case api.CNull:
		p.put(c.Name, " == null")
	}
}

// not writes that a condition does not hold. The syntax could do without the
// parentheses of a comparison: they are for the reader.
func (p *printer) not(c *api.Cond) {
	if isKind(c, api.CNull) {
		p.put(c.Name, " != null")
		return
	}
	p.put("!")
	p.part(c, !isKind(c, api.CNot))
}

// part writes a condition, in parentheses if it needs them.
func (p *printer) part(c *api.Cond, enclosed bool) {
	if !enclosed {
		p.cond(c)
		return
	}
	p.put("(")
	p.cond(c)
	p.put(")")
}

func isKind(c *api.Cond, kind int) bool {
	return c != nil && c.Kind == kind
}

func comparison(kind int) string {
	switch kind {
	case api.CEq:
		return " == "
	case api.CNe:
		return " != "
	case api.CLt:
		return " < "
	case api.CLe:
		return " <= "
	case api.CGt:
		return " > "
	}
	return " >= "
}
