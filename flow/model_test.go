package flow

import (
	"math/rand"
	"slices"
	"testing"

	"augur/api"
)

// width is the number of the nodes of statements.
func width(stmts []api.Stmt) int {
	n := 0
	for _, s := range stmts {
		switch s.Kind {
		case api.SIf:
			n += 2 + width(s.Then) + width(s.Else)
		case api.SWhile:
			n += 1 + width(s.Then)
		default:
			n++
		}
	}
	return n
}

// model is the graph of a function by the words of the chapter: the numbers of all
// nodes are known from the start, by the widths of statements.
type model struct {
	nodes []api.Node
	exit  int
}

func modelOf(f api.Func) api.Graph {
	m := &model{exit: 1 + width(f.Body)}
	m.put(api.Node{Kind: api.NodeEntry, Next: []int{1}})
	m.stmts(f.Body, m.exit)
	m.put(api.Node{Kind: api.NodeExit})
	return api.Graph{Nodes: m.nodes}
}

func (m *model) put(n api.Node) { m.nodes = append(m.nodes, n) }

// stmts puts the nodes of a list; after is what follows its last statement.
func (m *model) stmts(stmts []api.Stmt, after int) {
	for i, s := range stmts {
		here := len(m.nodes)
		next := here + width(stmts[i:i+1])
		if i == len(stmts)-1 {
			next = after
		}
		switch s.Kind {
		case api.SIf:
			join := here + width(stmts[i:i+1]) - 1
			then, or := here+1, here+1+width(s.Then)
			if len(s.Then) == 0 {
				then = join
			}
			if len(s.Else) == 0 {
				or = join
			}
			m.put(api.Node{Kind: api.NodeTest, S: s, Next: []int{then, or}})
			m.stmts(s.Then, join)
			m.stmts(s.Else, join)
			m.put(api.Node{Kind: api.NodeJoin, Next: []int{next}})
		case api.SWhile:
			then := here + 1
			if len(s.Then) == 0 {
				then = here
			}
			m.put(api.Node{Kind: api.NodeTest, S: s, Head: true, Next: []int{then, next}})
			m.stmts(s.Then, here)
		case api.SReturn:
			m.put(api.Node{Kind: api.NodeStmt, S: s, Next: []int{m.exit}})
		default:
			m.put(api.Node{Kind: api.NodeStmt, S: s, Next: []int{next}})
		}
	}
}

// P10.1, P10.2: random functions, and what holds of their graphs.
func TestLowerAgainstModel(t *testing.T) {
	for seed := range int64(3000) {
		m := &maker{Rand: rand.New(rand.NewSource(seed))}
		f := api.Func{Name: "f", Body: m.stmts(m.Intn(5))}
		before := dump(f)
		g := Lower(f)
		if got, want := dump(g), dump(modelOf(f)); got != want {
			t.Fatalf("Lower of %s:\ngot  %s\nwant %s", before, show(g), show(modelOf(f)))
		}
		if dump(f) != before {
			t.Fatalf("Lower has changed %s to %s", before, dump(f))
		}
		checkAsked(t, g)
	}
}

// P10.2: graphs that are of no function.
func TestAskedAgainstModel(t *testing.T) {
	r := rand.New(rand.NewSource(10))
	for range 20000 {
		checkAsked(t, randomGraph(r))
	}
}

// checkAsked checks what is said of a graph against the chapter's words.
func checkAsked(t *testing.T, g api.Graph) {
	t.Helper()
	before := dump(g)
	preds, reached := make([][]int, len(g.Nodes)), make([]bool, len(g.Nodes))
	var heads []int
	for k := range g.Nodes {
		for i, n := range g.Nodes {
			if slices.Contains(n.Next, k) {
				preds[k] = append(preds[k], i)
			}
		}
		if g.Nodes[k].Head {
			heads = append(heads, k)
		}
		reached[k] = k == 0
	}
	for range g.Nodes {
		for k := range g.Nodes {
			reached[k] = reached[k] || slices.ContainsFunc(preds[k], func(i int) bool { return reached[i] })
		}
	}
	if got, want := dump(Preds(g)), dump(preds); got != want {
		t.Fatalf("Preds of %s: %s, want %s", show(g), got, want)
	}
	if got, want := dump(Reach(g)), dump(reached); got != want {
		t.Fatalf("Reach of %s: %s, want %s", show(g), got, want)
	}
	if got, want := dump(Heads(g)), dump(heads); got != want {
		t.Fatalf("Heads of %s: %s, want %s", show(g), got, want)
	}
	if dump(g) != before {
		t.Fatalf("a call has changed %s to %s", before, dump(g))
	}
}
