package print

import (
	"strings"
)

// writer writes lines, each with a tab for every block that is open where it
// begins.
type writer struct {
	built strings.Builder
	depth int
	begun bool // the line has its tabs
}

func (w *writer) text() string { return w.built.String() }

// put writes parts of a line. The tabs wait for the first of them: whether the
// line closes a block is known only then.
func (w *writer) put(parts ...string) {
	if !w.begun {
		w.built.WriteString(strings.Repeat("\t", w.depth))
		w.begun = true
	}
	for _, part := range parts {
		w.built.WriteString(part)
	}
}

// end ends a line.
func (w *writer) end() {
	w.built.WriteByte('\n')
	w.begun = false
}

// open opens a block, with which its line ends.
func (w *writer) open() {
	w.put("{")
	w.end()
	w.depth++
}

// close closes a block. Its line may go on.
func (w *writer) close() {
	w.depth--
	w.put("}")
}
