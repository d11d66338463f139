package names

import (
	"math/rand"
	"slices"
	"strings"
	"testing"

	"augur/api"
)

// texter writes random functions from forms, and keeps what their names are used
// for.
type texter struct {
	*rand.Rand
	wrongOf int // of so many statements, one has names of any kind
	stmts   int
	wrong   int // the number of the first wrong one, or -1
}

// simple writes a statement in which there are no others, or the condition of
// one in which there are.
func (w *texter) simple(among []form) string {
	form := among[w.Intn(len(among))]
	filling := make([]string, strings.Count(form.text, "@"))
	for {
		for i := range filling {
			filling[i] = names[w.Intn(len(names))]
		}
		if form.fits(filling) || w.Intn(w.wrongOf) == 0 {
			break
		}
	}
	if !form.fits(filling) && w.wrong < 0 {
		w.wrong = w.stmts
	}
	w.stmts++
	return form.fill(filling)
}

func (w *texter) block(depth int) string {
	var s strings.Builder
	for range w.Intn(5) {
		if w.stmts < api.MaxStmts/2 {
			s.WriteString(w.stmt(depth))
		}
	}
	return s.String()
}

func (w *texter) stmt(depth int) string {
	if depth == 0 || w.Intn(3) > 0 {
		return w.simple(forms)
	}
	first := slices.IndexFunc(forms, func(f form) bool { return strings.HasPrefix(f.text, "assert") })
	condition := w.simple(forms[first:])
	condition = condition[len("assert ") : len(condition)-1]
	if w.Intn(2) == 0 {
		return "while " + condition + "{" + w.block(depth-1) + "}"
	}
	s := "if " + condition + "{" + w.block(depth-1) + "}"
	if w.Intn(2) == 0 {
		s += "else{" + w.block(depth-1) + "}"
	}
	return s
}

// resolved is what the chapter says of lists of statements that are not wrong.
func resolved(stmts []api.Stmt) []api.Stmt {
	isPointer := func(e *api.Expr) bool { return e != nil && e.Kind == api.EVar && kindOf(e.Name) == "p" }
	stmts = slices.Clone(stmts)
	for i, s := range stmts {
		if s.Kind == api.SAssign && isPointer(s.E) {
			stmts[i] = api.Stmt{Kind: api.SCopy, X: s.X, Y: s.E.Name, At: s.At}
			continue
		}
		stmts[i].Then, stmts[i].Else = resolved(s.Then), resolved(s.Else)
		stmts[i].Args = slices.Clone(s.Args)
		for k, a := range s.Args {
			if isPointer(a.E) {
				stmts[i].Args[k] = api.Arg{Ptr: true, Name: a.E.Name}
			}
		}
	}
	return stmts
}

// uses holds the names of a tree by what they are used for.
type uses struct{ pointers, integers, cells, arrays, calls []string }

func (u *uses) expr(e *api.Expr) {
	if e != nil {
		if e.Kind == api.EVar {
			u.integers = append(u.integers, e.Name)
		}
		u.expr(e.A)
		u.expr(e.B)
	}
}

func (u *uses) cond(c *api.Cond) {
	if c != nil {
		if c.Kind == api.CNull {
			u.pointers = append(u.pointers, c.Name)
		}
		u.expr(c.A)
		u.expr(c.B)
		u.cond(c.P)
		u.cond(c.Q)
	}
}

func (u *uses) stmt(s api.Stmt) {
	switch s.Kind {
	case api.SAssign:
		u.integers = append(u.integers, s.X)
	case api.SAddr:
		u.pointers = append(u.pointers, s.X)
		u.cells = append(u.cells, s.Y)
	case api.SCopy:
		u.pointers = append(u.pointers, s.X, s.Y)
	case api.SNull, api.SStore:
		u.pointers = append(u.pointers, s.X)
	case api.SLoad:
		u.integers = append(u.integers, s.X)
		u.pointers = append(u.pointers, s.Y)
	case api.SIndex:
		u.integers = append(u.integers, s.X)
		u.arrays = append(u.arrays, s.Y)
	case api.SPut:
		u.arrays = append(u.arrays, s.Y)
	case api.SCall:
		u.calls = append(u.calls, s.Y)
		if s.X != "" {
			u.integers = append(u.integers, s.X)
		}
	}
	for _, a := range s.Args {
		if a.Ptr {
			u.pointers = append(u.pointers, a.Name)
		}
		u.expr(a.E)
	}
	u.expr(s.E)
	u.expr(s.F)
	u.cond(s.C)
}

func (u *uses) stmts(stmts []api.Stmt) {
	for _, s := range stmts {
		u.stmt(s)
		u.stmts(s.Then)
		u.stmts(s.Else)
	}
}

// sorted returns names in order, each once.
func sorted(names []string) string {
	return strings.Join(slices.Compact(slices.Sorted(slices.Values(names))), " ")
}

// checkMeanings checks that each name of a resolved function is used for what it
// is declared as, and that the globals among them are in the lists.
func checkMeanings(t *testing.T, f api.Func) {
	t.Helper()
	var u uses
	u.stmts(f.Body)
	cells := slices.Clone(u.cells)
	for _, name := range u.integers {
		if kindOf(name) == "p" {
			t.Errorf("%s is used as an integer: %s", name, dump(f))
		}
		if kindOf(name) == "g" {
			cells = append(cells, name)
		}
	}
	for _, name := range u.pointers {
		if kindOf(name) != "p" {
			t.Errorf("%s is used as a pointer: %s", name, dump(f))
		}
	}
	for _, name := range slices.Concat(u.cells, u.arrays, u.calls) {
		if kindOf(name) != "g" {
			t.Errorf("%s is used as a global: %s", name, dump(f))
		}
	}
	checkNames(t, f, sorted(cells), sorted(u.arrays), sorted(u.calls))
}

// P9.1, P9.2, P9.3: random functions of right and wrong statements.
func TestRandom(t *testing.T) {
	r := rand.New(rand.NewSource(91))
	right := 0
	for range 6000 {
		w := &texter{Rand: r, wrongOf: 10 << r.Intn(8), wrong: -1}
		s := head + w.block(4) + "}"
		if len(s) > api.MaxText {
			continue
		}
		f := parsed(t, s)
		if w.wrong >= 0 {
			checkWrong(t, s, "f", w.wrong, api.ErrType)
			continue
		}
		right++
		want := f
		want.Body = resolved(f.Body)
		checkResolved(t, s, want)
		got, _, _ := Resolve(f, "f")
		checkMeanings(t, got)
		checkNames(t, f, strings.Join(Cells(got), " "), strings.Join(Arrays(got), " "), strings.Join(Calls(got), " "))
		if again, at, e := Resolve(got, "f"); e != api.OK || at != 0 || dump(again) != dump(got) {
			t.Errorf("again: %d, %v\ngot  %s\nwant %s", at, e, dump(again), dump(got))
		}
		if t.Failed() {
			t.Fatalf("of %q", s)
		}
	}
	if right < 1000 || right > 5000 {
		t.Errorf("%d of 6000 functions are right", right)
	}
}

// P9.3: the text that two functions share means the same in both, with whatever
// names the globals have.
func TestMeaningHangsOnDeclarations(t *testing.T) {
	text := "x = 1; y = &x; y = z; x = t[x]; t(x, y, z, x + 1); x = *z; }"
	f := parsed(t, "fn f() { var w; ptr y; ptr z; "+text)
	got, at, e := Resolve(f, "f")
	if e != api.OK || got.Body[2].Kind != api.SCopy || !got.Body[4].Args[1].Ptr || !got.Body[4].Args[2].Ptr || got.Body[4].Args[0].Ptr || got.Body[4].Args[3].Ptr {
		t.Errorf("%d, %v, %s", at, e, dump(got))
	}
	checkNames(t, got, "x", "t", "t")
	checkWrong(t, "fn f() { var x; ptr y; ptr z; "+text, "f", 1, api.ErrType)
	checkWrong(t, "fn f() { ptr y; "+text, "f", 2, api.ErrType)
	checkWrong(t, "fn f(z) { ptr y; "+text, "f", 2, api.ErrType)
	checkWrong(t, "fn f(*z, t) { ptr y; "+text, "f", 3, api.ErrType)
	checkWrong(t, "fn f(*x, *z) { ptr y; "+text, "f", 0, api.ErrType)
}
