package flow

import (
	"math/rand"
	"slices"
	"testing"

	"augur/api"
)

// runner executes statements as the language does, as far as their order goes:
// whether conditions hold is drawn at random and kept.
type runner struct {
	*rand.Rand
	holds []bool
	trace []int // the numbers of the statements that were executed
}

const manySteps = 300

// stmts executes statements, and tells whether the run goes on after them.
func (r *runner) stmts(stmts []api.Stmt) bool {
	for _, s := range stmts {
		if !r.stmt(s) {
			return false
		}
	}
	return true
}

func (r *runner) stmt(s api.Stmt) bool {
	switch s.Kind {
	case api.SIf:
		if r.test(s) {
			return r.stmts(s.Then)
		}
		return r.stmts(s.Else)
	case api.SWhile:
		for r.test(s) {
			if len(r.trace) > manySteps || !r.stmts(s.Then) {
				return false
			}
		}
		return true
	}
	r.trace = append(r.trace, s.At)
	return s.Kind != api.SReturn
}

func (r *runner) test(s api.Stmt) bool {
	r.trace = append(r.trace, s.At)
	r.holds = append(r.holds, r.Intn(2) == 0)
	return r.holds[len(r.holds)-1]
}

// path follows a graph from its entry. It takes the first successor of a test if
// its condition holds, and returns the numbers of the statements on its way.
func path(g api.Graph, holds []bool) []int {
	var trace []int
	for i := 0; len(trace) <= manySteps; {
		n := g.Nodes[i]
		switch n.Kind {
		case api.NodeExit:
			return trace
		case api.NodeTest:
			trace = append(trace, n.S.At)
			i = n.Next[1]
			if holds[0] {
				i = n.Next[0]
			}
			holds = holds[1:]
			continue
		case api.NodeStmt:
			trace = append(trace, n.S.At)
		}
		i = n.Next[0]
	}
	return trace
}

// P10.3: what random functions execute is a path to the exit.
func TestExecutionsArePaths(t *testing.T) {
	returned := 0
	for seed := range int64(4000) {
		m := &maker{Rand: rand.New(rand.NewSource(seed))}
		f := api.Func{Name: "f", Body: m.stmts(4)}
		g := Lower(f)
		r := &runner{Rand: m.Rand}
		r.stmts(f.Body)
		want := r.trace[:min(len(r.trace), manySteps)]
		got := path(g, append(r.holds, make([]bool, manySteps)...))
		if got = got[:min(len(got), manySteps)]; !slices.Equal(got, want) {
			t.Fatalf("%s\nfollows %v, and executes %v", show(g), got, want)
		}
		if len(r.trace) < manySteps {
			returned++
		}
	}
	if returned < 1000 {
		t.Errorf("only %d runs have returned", returned)
	}
}
