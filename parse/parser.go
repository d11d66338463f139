package parse

import (
	"augur/api"
)

// parser reads the parts of a text by methods that panic where a token is wrong.
type parser struct {
	position
	depth int // how many blocks, parentheses, "!" and "-" are open
	stmts int // how many statements have begun
}

// enter reads the token of this text, with which something begins in which
// others may be nested.
func (p *parser) enter(text string) {
	t := p.peek(0)
	p.expect(text)
	if p.depth == api.MaxDepth {
		refuse(t, api.ErrDeep)
	}
	p.depth++
}

// leave ends what enter began.
func (p *parser) leave() {
	p.depth--
}

// declared reads a name that is declared after n others, of at most most.
func (p *parser) declared(n, most int) string {
	t := p.peek(0)
	name := p.name()
	if n == most {
		refuse(t, api.ErrLong)
	}
	return name
}

// function reads a function.
func (p *parser) function() api.Func {
	p.expect("fn")
	f := api.Func{Name: p.name()}
	f.Params = p.params()
	p.enter("{")
	f.Locals = p.locals()
	f.Body = p.stmtsToEnd()
	p.leave()
	return f
}

func (p *parser) params() []api.Var {
	p.expect("(")
	if p.accept(")") {
		return nil
	}
	params := []api.Var{p.param(0)}
	for p.accept(",") {
		params = append(params, p.param(len(params)))
	}
	p.expect(")")
	return params
}

// param reads the parameter that follows n others.
func (p *parser) param(n int) api.Var {
	ptr := p.accept("*")
	return api.Var{Name: p.declared(n, api.MaxParams), Ptr: ptr}
}

func (p *parser) locals() []api.Var {
	var locals []api.Var
	for p.isNext("var") || p.isNext("ptr") {
		ptr := p.isNext("ptr")
		p.skip()
		name := p.declared(len(locals), api.MaxLocals)
		p.expect(";")
		locals = append(locals, api.Var{Name: name, Ptr: ptr})
	}
	return locals
}

// globals reads the declarations of cells and arrays.
func (p *parser) globals() api.Globals {
	var g api.Globals
	for !p.isEnd() {
		n := len(g.Cells) + len(g.Arrays)
		if p.accept("cell") {
			g.Cells = append(g.Cells, p.declared(n, api.MaxGlobals))
		} else {
			p.expect("array")
			name := p.declared(n, api.MaxGlobals)
			g.Arrays = append(g.Arrays, api.Array{Name: name, Len: p.bounds()})
		}
		p.expect(";")
	}
	return g
}

// bounds reads the length of an array, in brackets.
func (p *parser) bounds() int {
	p.expect("[")
	t := p.peek(0)
	n := p.number()
	switch {
	case n == 0:
		refuse(t, api.ErrParse)
	case n > api.MaxLen:
		refuse(t, api.ErrLong)
	}
	p.expect("]")
	return int(n)
}
