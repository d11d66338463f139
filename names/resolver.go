package names

import (
	"augur/api"
)

// resolver checks statements that it visits, and changes those that assign or
// hand over pointers.
type resolver struct {
	visitor
	scope
	visited int       // the number of the statement that is visited
	at      int       // the number of the first wrong one
	err     api.Errno // OK as long as none is wrong
}

func newResolver(declared scope) *resolver {
	r := &resolver{scope: declared}
	r.visitor = visitor{
		onStmt: func(s *api.Stmt) {
			r.visited = s.At
			r.stmt(s)
		},
		onName: func(name string) { r.require(!r.isPointer(name)) },
		onNull: func(name string) { r.require(r.isPointer(name)) },
	}
	return r
}

func (r *resolver) require(ok bool) {
	if !ok && r.err == api.OK {
		r.at, r.err = r.visited, api.ErrType
	}
}

// stmt looks at the names of a statement outside of expressions and conditions,
// which are visited afterwards. A pointer that may be all of an expression is
// moved out of it here, so that none may be in those that are left.
func (r *resolver) stmt(s *api.Stmt) {
	switch s.Kind {
	case api.SAssign:
		r.assign(s)
	case api.SCopy:
		r.require(r.isPointer(s.X) && r.isPointer(s.Y))
	case api.SAddr:
		r.require(r.isPointer(s.X) && r.isGlobal(s.Y))
	case api.SNull, api.SStore:
		r.require(r.isPointer(s.X))
	case api.SLoad:
		r.require(!r.isPointer(s.X) && r.isPointer(s.Y))
	case api.SIndex:
		r.require(!r.isPointer(s.X) && r.isGlobal(s.Y))
	case api.SPut:
		r.require(r.isGlobal(s.Y))
	case api.SCall:
		r.require(!r.isPointer(s.X) && r.isGlobal(s.Y))
		r.args(s.Args)
	}
}

func (r *resolver) assign(s *api.Stmt) {
	if !r.isPointer(s.X) {
		return
	}
	from, ok := r.pointerAlone(s.E)
	r.require(ok)
	if ok {
		s.Kind, s.Y, s.E = api.SCopy, from, nil
	}
}

func (r *resolver) args(args []api.Arg) {
	for i, a := range args {
		if name, ok := r.pointerAlone(a.E); ok && !a.Ptr {
			args[i] = api.Arg{Ptr: true, Name: name}
		}
		r.require(!args[i].Ptr || r.isPointer(args[i].Name))
	}
}

// copied copies lists of statements and arguments, which the resolver changes,
// but not expressions and conditions, which it does not.
func copied(stmts []api.Stmt) []api.Stmt {
	var to []api.Stmt
	for _, s := range stmts {
		s.Args = append([]api.Arg(nil), s.Args...)
		s.Then = copied(s.Then)
		s.Else = copied(s.Else)
		to = append(to, s)
	}
	return to
}

func copiedVars(vars []api.Var) []api.Var {
	return append([]api.Var(nil), vars...)
}
