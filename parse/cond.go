package parse

import (
	"augur/api"
)

// cond reads a condition.
func (p *parser) cond() *api.Cond {
	c := p.and()
	for p.accept("||") {
		c = &api.Cond{Kind: api.COr, P: c, Q: p.and()}
	}
	return c
}

func (p *parser) and() *api.Cond {
	c := p.not()
	for p.accept("&&") {
		c = &api.Cond{Kind: api.CAnd, P: c, Q: p.not()}
	}
	return c
}

func (p *parser) not() *api.Cond {
	switch {
	case p.isNext("!"):
		p.enter("!")
		c := &api.Cond{Kind: api.CNot, P: p.not()}
		p.leave()
		return c
	case p.isNext("("):
		p.enter("(")
		c := p.cond()
		p.expect(")")
		p.leave()
		return c
	case p.isNullTest():
		return p.nullTest()
	}
	return p.comparison()
}

// isNullTest looks as far ahead as null: up to there, a comparison may begin in
// the same way.
func (p *parser) isNullTest() bool {
	return (p.isNamed("==") || p.isNamed("!=")) && p.peek(2).Text == "null"
}

func (p *parser) nullTest() *api.Cond {
	c := &api.Cond{Kind: api.CNull, Name: p.name()}
	if p.accept("!=") {
		c = &api.Cond{Kind: api.CNot, P: c}
	} else {
		p.expect("==")
	}
	p.expect("null")
	return c
}

func (p *parser) comparison() *api.Cond {
	a := p.sum()
	t := p.peek(0)
	kind, ok := comparisonKind(t.Text)
	if !ok {
		refuse(t, api.ErrParse)
	}
	p.skip()
	return &api.Cond{Kind: kind, A: a, B: p.sum()}
}

func comparisonKind(operator string) (int, bool) {
	switch operator {
	case "==":
		return api.CEq, true
	case "!=":
		return api.CNe, true
	case "<":
		return api.CLt, true
	case "<=":
		return api.CLe, true
	case ">":
		return api.CGt, true
	case ">=":
		return api.CGe, true
	}
	return 0, false
}
