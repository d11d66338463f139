package parse

import (
	"math/rand"
	"strconv"

	"augur/api"
)

// writer makes random functions, and their tokens at the same time.
type writer struct {
	*rand.Rand
	tokens []string
	stmts  int
}

func (w *writer) put(tokens ...string) {
	w.tokens = append(w.tokens, tokens...)
}

// one tells whether something happens that does once in n times.
func (w *writer) one(n int) bool { return w.Intn(n) == 0 }

// name puts a name, and returns it.
func (w *writer) name() string {
	names := []string{"a", "b", "x", "y", "p", "q", "f", "g1", "_", "If", "nulls"}
	name := names[w.Intn(len(names))]
	w.put(name)
	return name
}

// function makes a function with about so many parameters, locals and
// statements.
func (w *writer) function(params, locals, stmts, depth int) api.Func {
	w.put("fn")
	f := api.Func{Name: w.name()}
	w.put("(")
	for i := range params {
		if i > 0 {
			w.put(",")
		}
		ptr := w.one(2)
		if ptr {
			w.put("*")
		}
		f.Params = append(f.Params, api.Var{Name: w.name(), Ptr: ptr})
	}
	w.put(")", "{")
	for range locals {
		ptr := w.one(2)
		w.put(map[bool]string{true: "ptr", false: "var"}[ptr])
		f.Locals = append(f.Locals, api.Var{Name: w.name(), Ptr: ptr})
		w.put(";")
	}
	for w.stmts < stmts {
		f.Body = append(f.Body, w.stmt(depth))
	}
	w.put("}")
	return f
}

// stmt makes a statement with blocks and operands that nest about so deep.
func (w *writer) stmt(depth int) api.Stmt {
	s := api.Stmt{At: w.stmts}
	w.stmts++
	kind := w.Intn(9)
	if kind < 2 && depth <= 0 {
		kind += 2
	}
	switch kind {
	case 0:
		w.put("if")
		s.Kind, s.C = api.SIf, w.test(depth)
		s.Then = w.block(depth - 1)
		if w.one(2) {
			w.put("else")
			s.Else = w.block(depth - 1)
		}
		return s
	case 1:
		w.put("while")
		s.Kind, s.C = api.SWhile, w.test(depth)
		s.Then = w.block(depth - 1)
		return s
	case 2:
		w.put("assert")
		s.Kind, s.C = api.SAssert, w.test(depth)
	case 3:
		w.put("return")
		s.Kind, s.E = api.SReturn, w.sum(depth, 0)
	case 4:
		w.put("*")
		s.Kind, s.X = api.SStore, w.name()
		w.put("=")
		s.E = w.sum(depth, 0)
	case 5:
		s.Kind, s.Y = api.SPut, w.name()
		s.E = w.index(depth)
		w.put("=")
		s.F = w.sum(depth, 0)
	case 6:
		w.call(&s, depth)
	default:
		s.X = w.name()
		w.put("=")
		w.value(&s, depth)
	}
	w.put(";")
	return s
}

func (w *writer) block(depth int) []api.Stmt {
	w.put("{")
	var stmts []api.Stmt
	for !w.one(3) && w.stmts < 250 {
		stmts = append(stmts, w.stmt(depth))
	}
	w.put("}")
	return stmts
}

func (w *writer) value(s *api.Stmt, depth int) {
	switch w.Intn(8) {
	case 0:
		s.Kind = api.SNull
		w.put("null")
	case 1:
		w.put("&")
		s.Kind, s.Y = api.SAddr, w.name()
	case 2:
		w.put("*")
		s.Kind, s.Y = api.SLoad, w.name()
	case 3:
		s.Kind, s.Y = api.SIndex, w.name()
		s.E = w.index(depth)
	case 4:
		w.call(s, depth)
	default:
		s.Kind, s.E = api.SAssign, w.sum(depth, 0)
	}
}

func (w *writer) call(s *api.Stmt, depth int) {
	s.Kind, s.Y = api.SCall, w.name()
	w.put("(")
	for i := range w.Intn(4) {
		if i > 0 {
			w.put(",")
		}
		s.Args = append(s.Args, api.Arg{E: w.sum(depth-1, 0)})
	}
	w.put(")")
}

func (w *writer) index(depth int) *api.Expr {
	w.put("[")
	e := w.sum(depth, 0)
	w.put("]")
	return e
}

func (w *writer) test(depth int) *api.Cond {
	w.put("(")
	c := w.cond(depth, 0)
	w.put(")")
	return c
}

// How much an operand has to bind: at a level, only what is of this level or
// above may stand without parentheses.
const (
	levelSum  = 0
	levelProd = 1
	levelUn   = 2

	levelOr  = 0
	levelAnd = 1
	levelNot = 2
)

// sum makes an expression that may stand at a level.
func (w *writer) sum(depth, level int) *api.Expr {
	operators := map[int]string{api.EAdd: "+", api.ESub: "-", api.EMul: "*", api.EDiv: "/", api.EMod: "%"}
	kind := api.ENum + w.Intn(api.ENeg+1)
	if depth <= 0 {
		kind = w.Intn(2)
	}
	own := map[int]int{api.EAdd: levelSum, api.ESub: levelSum, api.EMul: levelProd, api.EDiv: levelProd, api.EMod: levelProd}
	least, binary := own[kind]
	if binary && least < level || w.one(8) && depth > 0 {
		w.put("(")
		defer w.put(")")
	}
	switch kind {
	case api.ENum:
		n := []int64{0, 1, 2, 10, 1<<63 - 1}[w.Intn(5)]
		w.put(strconv.FormatInt(n, 10))
		return &api.Expr{N: n}
	case api.EVar:
		return &api.Expr{Kind: kind, Name: w.name()}
	case api.ENeg:
		w.put("-")
		return &api.Expr{Kind: kind, A: w.sum(depth-1, levelUn)}
	}
	// From the left: the right operand binds more than its operator.
	e := &api.Expr{Kind: kind, A: w.sum(depth-1, least)}
	w.put(operators[kind])
	e.B = w.sum(depth-1, least+1)
	return e
}

// cond makes a condition that may stand at a level.
func (w *writer) cond(depth, level int) *api.Cond {
	kind := w.Intn(api.CNull + 1)
	if depth <= 0 && (kind == api.CAnd || kind == api.COr || kind == api.CNot) {
		kind = api.CNull
	}
	own := map[int]int{api.COr: levelOr, api.CAnd: levelAnd}
	least, binary := own[kind]
	if binary && least < level || w.one(8) && depth > 0 {
		w.put("(")
		defer w.put(")")
	}
	switch kind {
	case api.COr, api.CAnd:
		c := &api.Cond{Kind: kind, P: w.cond(depth-1, least)}
		w.put(map[int]string{api.COr: "||", api.CAnd: "&&"}[kind])
		c.Q = w.cond(depth-1, least+1)
		return c
	case api.CNot:
		w.put("!")
		return &api.Cond{Kind: kind, P: w.cond(depth-1, levelNot)}
	case api.CNull:
		c := &api.Cond{Kind: kind, Name: w.name()}
		if w.one(2) {
			w.put("!=", "null")
			return &api.Cond{Kind: api.CNot, P: c}
		}
		w.put("==", "null")
		return c
	}
	return w.comparison(kind, depth)
}

// comparison makes a comparison. It must not begin with a parenthesis.
func (w *writer) comparison(kind, depth int) *api.Cond {
	operators := []string{"==", "!=", "<", "<=", ">", ">="}
	begin := len(w.tokens)
	c := &api.Cond{Kind: kind, A: w.sum(depth-1, levelSum)}
	for w.tokens[begin] == "(" {
		w.tokens = w.tokens[:begin]
		c.A = w.sum(depth-1, levelSum)
	}
	w.put(operators[kind])
	c.B = w.sum(depth-1, levelSum)
	return c
}
