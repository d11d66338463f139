package parse

import (
	"augur/api"
)

// sum reads a sum or difference of products, or one product.
func (p *parser) sum() *api.Expr {
	e := p.product()
	for {
		kind, ok := sumKind(p.peek(0).Text)
		if !ok {
			return e
		}
		p.skip()
		e = &api.Expr{Kind: kind, A: e, B: p.product()}
	}
}

func sumKind(operator string) (int, bool) {
	switch operator {
	case "+":
		return api.EAdd, true
	case "-":
		return api.ESub, true
	}
	return 0, false
}

// product reads a product, quotient or remainder, or one operand.
func (p *parser) product() *api.Expr {
	e := p.operand()
	for {
		kind, ok := productKind(p.peek(0).Text)
		if !ok {
			return e
		}
		p.skip()
		e = &api.Expr{Kind: kind, A: e, B: p.operand()}
	}
}

func productKind(operator string) (int, bool) {
	switch operator {
	case "*":
		return api.EMul, true
	case "/":
		return api.EDiv, true
	case "%":
		return api.EMod, true
	}
	return 0, false
}

// operand reads what the chapter calls un.
func (p *parser) operand() *api.Expr {
	switch {
	case p.isNext("-"):
		p.enter("-")
		e := &api.Expr{Kind: api.ENeg, A: p.operand()}
		p.leave()
		return e
	case p.isNext("("):
		p.enter("(")
		e := p.sum()
		p.expect(")")
		p.leave()
		return e
	case p.peek(0).Kind == api.TokNum:
		return &api.Expr{Kind: api.ENum, N: p.number()}
	}
	return &api.Expr{Kind: api.EVar, Name: p.name()}
}
