package flow

import (
	"augur/api"
)

// lowerer turns statements into nodes.
type lowerer struct {
	builder
	returns []end // these lead to the exit, which is the last node
}

func (l *lowerer) function(body []api.Stmt) {
	l.leave(l.add(api.Node{Kind: api.NodeEntry}, 1), 0)
	l.stmts(body)
	l.reopen(l.returns)
	l.add(api.Node{Kind: api.NodeExit}, 0)
}

func (l *lowerer) stmts(stmts []api.Stmt) {
	for _, s := range stmts {
		switch s.Kind {
		case api.SIf:
			l.choice(s)
		case api.SWhile:
			l.loop(s)
		default:
			l.simple(s)
		}
	}
}

// simple lowers a statement in which there are no others.
func (l *lowerer) simple(s api.Stmt) {
	at := l.add(api.Node{Kind: api.NodeStmt, S: s}, 1)
	if s.Kind == api.SReturn {
		l.returns = append(l.returns, end{at, 0})
		return
	}
	l.leave(at, 0)
}

// choice lowers an if statement.
func (l *lowerer) choice(s api.Stmt) {
	test := l.add(api.Node{Kind: api.NodeTest, S: s}, 2)
	l.leave(test, 0)
	l.stmts(s.Then)
	afterThen := l.setAside()
	l.leave(test, 1)
	l.stmts(s.Else)
	l.reopen(afterThen)
	l.leave(l.add(api.Node{Kind: api.NodeJoin}, 1), 0)
}

// loop lowers a while statement. What is open after its body leads back; this is
// the test itself if the body is empty.
func (l *lowerer) loop(s api.Stmt) {
	test := l.add(api.Node{Kind: api.NodeTest, S: s, Head: true}, 2)
	l.leave(test, 0)
	l.stmts(s.Then)
	l.lead(test)
	l.leave(test, 1)
}
