package names

import (
	"augur/api"
)

// kind is what a name is in a function.
type kind int

const (
	global kind = iota
	integer
	pointer
)

// scope holds the kinds of parameters and locals. All that it does not hold is
// global.
type scope map[string]kind

func scopeOf(f api.Func) scope {
	s := scope{}
	s.declare(f.Params)
	s.declare(f.Locals)
	return s
}

func (s scope) declare(vars []api.Var) {
	for _, v := range vars {
		s[v.Name] = integer
		if v.Ptr {
			s[v.Name] = pointer
		}
	}
}

func (s scope) isPointer(name string) bool { return s[name] == pointer }

func (s scope) isGlobal(name string) bool { return s[name] == global }

// pointerAlone returns the pointer whose name is all of an expression.
func (s scope) pointerAlone(e *api.Expr) (string, bool) {
	if e == nil || e.Kind != api.EVar || !s.isPointer(e.Name) {
		return "", false
	}
	return e.Name, true
}
