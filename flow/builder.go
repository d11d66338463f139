package flow

import (
	"augur/api"
)

// end is a successor of a node, as long as its number is not known.
type end struct{ node, slot int }

// builder assembles a graph, node by node, in the order of their numbers.
type builder struct {
	nodes []api.Node
	open  []end // what the next node to be added will be a successor of
}

// add adds a node with so many successors, and returns its number. The node ends
// what is open; its own successors are opened by the caller.
func (b *builder) add(n api.Node, successors int) int {
	n.Next = make([]int, successors)
	b.nodes = append(b.nodes, n)
	at := len(b.nodes) - 1
	b.lead(at)
	return at
}

// leave opens a successor of a node.
func (b *builder) leave(node, slot int) {
	b.open = append(b.open, end{node, slot})
}

// lead makes all that is open lead to a node.
func (b *builder) lead(to int) {
	for _, e := range b.open {
		b.nodes[e.node].Next[e.slot] = to
	}
	b.open = nil
}

// setAside returns what is open, and opens it no longer.
func (b *builder) setAside() []end {
	aside := b.open
	b.open = nil
	return aside
}

// reopen opens again what was set aside.
func (b *builder) reopen(aside []end) {
	b.open = append(b.open, aside...)
}
