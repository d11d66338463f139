package print

import (
	"fmt"
	"math/rand"
	"strings"
	"testing"

	"augur/api"
)

func oneOf(kind int, kinds ...int) bool {
	for _, k := range kinds {
		if k == kind {
			return true
		}
	}
	return false
}

func enclosed(s string, yes bool) string {
	if yes {
		return "(" + s + ")"
	}
	return s
}

// exprModel is P8.1 word by word.
func exprModel(e *api.Expr) string {
	sum := func(k int) bool { return oneOf(k, api.EAdd, api.ESub) }
	product := func(k int) bool { return oneOf(k, api.EMul, api.EDiv, api.EMod) }
	switch e.Kind {
	case api.ENum:
		return fmt.Sprint(e.N)
	case api.EVar:
		return e.Name
	case api.ENeg:
		return "-" + enclosed(exprModel(e.A), sum(e.A.Kind) || product(e.A.Kind))
	}
	a := enclosed(exprModel(e.A), product(e.Kind) && sum(e.A.Kind))
	b := enclosed(exprModel(e.B), sum(e.Kind) && sum(e.B.Kind) || product(e.Kind) && (sum(e.B.Kind) || product(e.B.Kind)))
	return a + map[int]string{api.EAdd: " + ", api.ESub: " - ", api.EMul: " * ", api.EDiv: " / ", api.EMod: " % "}[e.Kind] + b
}

func condModel(c *api.Cond) string {
	switch c.Kind {
	case api.CAnd, api.COr:
		and := c.Kind == api.CAnd
		p := enclosed(condModel(c.P), and && c.P.Kind == api.COr)
		q := enclosed(condModel(c.Q), and && c.Q.Kind == api.COr || c.Q.Kind == c.Kind)
		return p + map[bool]string{true: " && ", false: " || "}[and] + q
	case api.CNull:
		return c.Name + " == null"
	case api.CNot:
		if c.P.Kind == api.CNull {
			return c.P.Name + " != null"
		}
		return "!" + enclosed(condModel(c.P), c.P.Kind != api.CNot)
	}
	return exprModel(c.A) + []string{" == ", " != ", " < ", " <= ", " > ", " >= "}[c.Kind] + exprModel(c.B)
}

// linesModel is P8.2: the lines of statements, within so many blocks.
func linesModel(stmts []api.Stmt, depth int) string {
	tabs := strings.Repeat("\t", depth)
	var lines string
	for _, s := range stmts {
		switch s.Kind {
		case api.SIf:
			lines += tabs + "if (" + condModel(s.C) + ") {\n" + linesModel(s.Then, depth+1)
			if len(s.Else) > 0 {
				lines += tabs + "} else {\n" + linesModel(s.Else, depth+1)
			}
			lines += tabs + "}\n"
		case api.SWhile:
			lines += tabs + "while (" + condModel(s.C) + ") {\n" + linesModel(s.Then, depth+1) + tabs + "}\n"
		default:
			lines += tabs + lineModel(s) + ";\n"
		}
	}
	return lines
}

func lineModel(s api.Stmt) string {
	switch s.Kind {
	case api.SAssign:
		return s.X + " = " + exprModel(s.E)
	case api.SAddr:
		return s.X + " = &" + s.Y
	case api.SCopy:
		return s.X + " = " + s.Y
	case api.SNull:
		return s.X + " = null"
	case api.SLoad:
		return s.X + " = *" + s.Y
	case api.SStore:
		return "*" + s.X + " = " + exprModel(s.E)
	case api.SIndex:
		return s.X + " = " + s.Y + "[" + exprModel(s.E) + "]"
	case api.SPut:
		return s.Y + "[" + exprModel(s.E) + "] = " + exprModel(s.F)
	case api.SReturn:
		return "return " + exprModel(s.E)
	case api.SAssert:
		return "assert (" + condModel(s.C) + ")"
	}
	var args []string
	for _, a := range s.Args {
		if a.Ptr {
			args = append(args, a.Name)
		} else {
			args = append(args, exprModel(a.E))
		}
	}
	call := s.Y + "(" + strings.Join(args, ", ") + ")"
	if s.X != "" {
		return s.X + " = " + call
	}
	return call
}

func funcModel(f api.Func) string {
	var params []string
	for _, v := range f.Params {
		params = append(params, map[bool]string{true: "*"}[v.Ptr]+v.Name)
	}
	lines := "fn " + f.Name + "(" + strings.Join(params, ", ") + ") {\n"
	for _, v := range f.Locals {
		lines += map[bool]string{true: "\tptr ", false: "\tvar "}[v.Ptr] + v.Name + ";\n"
	}
	return lines + linesModel(f.Body, 1) + "}\n"
}

// P8.1: random expressions and conditions, also such as no text denotes.
func TestExprsOfModel(t *testing.T) {
	m := maker{rand.New(rand.NewSource(81))}
	for range 5000 {
		e, c := m.expr(m.Intn(6)), m.cond(m.Intn(6))
		if got, want := Expr(e), exprModel(e); got != want {
			t.Fatalf("Expr(%s)\ngot  %q\nwant %q", dump(e), got, want)
		}
		if got, want := Cond(c), condModel(c); got != want {
			t.Fatalf("Cond(%s)\ngot  %q\nwant %q", dump(c), got, want)
		}
	}
}

// P8.2: random functions, also such as no text denotes.
func TestFuncsOfModel(t *testing.T) {
	m := maker{rand.New(rand.NewSource(82))}
	for range 2000 {
		f := m.function(m.Intn(4))
		if got, want := Func(f), funcModel(f); got != want {
			t.Fatalf("Func(%s)\ngot  %q\nwant %q", dump(f), got, want)
		}
	}
}
