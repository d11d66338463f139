package names

import (
	"maps"
	"slices"

	"augur/api"
)

// nameSet holds names, each once.
type nameSet map[string]struct{}

func (n nameSet) add(name string) { n[name] = struct{}{} }

// collector gathers names from the statements that it visits.
type collector struct {
	visitor
	nameSet
}

// newCollector returns a collector that passes over everything: it gathers what
// its closures are set to gather.
func newCollector() *collector {
	pass := func(string) {}
	return &collector{
		visitor: visitor{onStmt: func(*api.Stmt) {}, onName: pass, onNull: pass},
		nameSet: nameSet{},
	}
}

// collect returns the names that it gathers from a function.
func (c *collector) collect(f api.Func) []string {
	c.stmts(f.Body)
	return slices.Sorted(maps.Keys(c.nameSet))
}
