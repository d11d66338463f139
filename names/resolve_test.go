package names

import (
	"slices"
	"strings"
	"testing"

	"augur/api"
)

// head declares two names of each kind but global. Global are c, f and t.
const head = "fn f(i, *p) { var j; ptr q; "

// kindOf returns the kind of a name after head, as a letter: pointer, integer or
// global.
func kindOf(name string) string {
	switch name {
	case "i", "j":
		return "i"
	case "p", "q":
		return "p"
	}
	return "g"
}

// form is a statement with places for names (@), and the kinds that these may
// have, by the words of the chapter: a list for each way that the statement may
// be meant, with the kinds of each place.
type form struct {
	text string
	ways [][]string
}

func oneWay(text string, kinds ...string) form { return form{text, [][]string{kinds}} }

var forms = []form{
	{"@ = @;", [][]string{{"ig", "ig"}, {"p", "p"}}},
	{"@ = ((@));", [][]string{{"ig", "ig"}, {"p", "p"}}},
	oneWay("@ = 1;", "ig"),
	oneWay("@ = -@;", "ig", "ig"),
	oneWay("@ = @ + 1;", "ig", "ig"),
	oneWay("@ = 0 - @ * @;", "ig", "ig", "ig"),
	oneWay("@ = (1 - @) / 2 % -(-@);", "ig", "ig", "ig"),
	oneWay("@ = &@;", "p", "g"),
	oneWay("@ = null;", "p"),
	oneWay("@ = *@;", "ig", "p"),
	oneWay("*@ = 1;", "p"),
	oneWay("*@ = @;", "p", "ig"),
	oneWay("*@ = @ % (2 - @);", "p", "ig", "ig"),
	oneWay("@ = @[@];", "ig", "g", "ig"),
	oneWay("@ = @[1 + -@];", "ig", "g", "ig"),
	oneWay("@[@] = @;", "g", "ig", "ig"),
	oneWay("@[@ / 2] = 1 - @;", "g", "ig", "ig"),
	oneWay("@();", "g"),
	oneWay("@ = @();", "ig", "g"),
	oneWay("@(@, @);", "g", "igp", "igp"),
	oneWay("@ = @((@));", "ig", "g", "igp"),
	oneWay("@(1, @ + 1, @);", "g", "ig", "igp"),
	oneWay("@ = @(-@);", "ig", "g", "ig"),
	oneWay("return @;", "ig"),
	oneWay("return @ * @;", "ig", "ig"),
	oneWay("assert (@ == null);", "p"),
	oneWay("assert (@ != null);", "p"),
	oneWay("assert (!(@ == null) || @ == @);", "p", "ig", "ig"),
	oneWay("assert (1 < -@ && !!(@ != null));", "ig", "p"),
	oneWay("assert (@ <= 1 || 1 >= @ + 1 || @ > @);", "ig", "ig", "ig", "ig"),
	oneWay("assert (@ != @);", "ig", "ig"),
}

// names are all that may stand at a place of a form.
var names = []string{"i", "j", "p", "q", "c", "f"}

// fill replaces the places of a form by names, one after another.
func (f form) fill(names []string) string {
	text := f.text
	for _, name := range names {
		text = strings.Replace(text, "@", name, 1)
	}
	return text
}

// fits tells whether the names may stand at the places of a form.
func (f form) fits(names []string) bool {
	for _, way := range f.ways {
		fits := true
		for i, name := range names {
			fits = fits && strings.Contains(way[i], kindOf(name))
		}
		if fits {
			return true
		}
	}
	return false
}

// fillings returns all lists of n names.
func fillings(n int) [][]string {
	if n == 0 {
		return [][]string{nil}
	}
	var lists [][]string
	for _, list := range fillings(n - 1) {
		for _, name := range names {
			lists = append(lists, append(slices.Clone(list), name))
		}
	}
	return lists
}

// P9.1: every name at every place of every statement.
func TestKinds(t *testing.T) {
	for _, form := range forms {
		for _, filling := range fillings(strings.Count(form.text, "@")) {
			text := form.fill(filling)
			for s, at := range map[string]int{text: 0, "if (1 == 1) { } while (c == c) { " + text + " }": 2} {
				s = head + s + " }"
				if !form.fits(filling) {
					checkWrong(t, s, "f", at, api.ErrType)
					continue
				}
				if _, at, e := Resolve(parsed(t, s), "f"); e != api.OK || at != 0 {
					t.Errorf("Resolve of %q: %d, %v", s, at, e)
				}
			}
		}
	}
}

// P9.1: conditions of if and while are those of assert.
func TestKindsOfConditions(t *testing.T) {
	for _, form := range forms {
		inside, isAssert := strings.CutPrefix(form.text, "assert ")
		if !isAssert {
			continue
		}
		inside = strings.TrimSuffix(inside, ";")
		for _, filling := range fillings(strings.Count(inside, "@")) {
			for _, s := range []string{"if @ { }", "if @ { i = 1; } else { p = 1; }", "while @ { }", "while @ { p = 1; }"} {
				s = head + "c = 1; " + strings.Replace(s, "@", oneWay(inside).fill(filling), 1) + " }"
				switch {
				case !form.fits(filling):
					checkWrong(t, s, "f", 1, api.ErrType)
				case strings.Contains(s, "p = 1;"):
					at := 2 + strings.Count(s, "i = 1;")
					checkWrong(t, s, "f", at, api.ErrType)
				default:
					if _, at, e := Resolve(parsed(t, s), "f"); e != api.OK || at != 0 {
						t.Errorf("Resolve of %q: %d, %v", s, at, e)
					}
				}
			}
		}
	}
}

// P9.1: what Resolve changes, and what it leaves.
func TestResolved(t *testing.T) {
	same := func(body string) {
		t.Helper()
		checkResolved(t, body, parsed(t, body))
	}
	same("fn f() {}")
	same("fn f(i, *p) { var j; ptr q; }")
	same("fn f(f) { f = f; }")
	same(head + "i = j; c = 1; p = &c; p = null; i = *p; *q = c; i = t[j]; t[i] = c; g(1, i, c + 0); i = f(); return 0; }")
	same(head + "if (p == null) { i = 1; } else { i = 2; } while (!(q != null) && i < c) { c = i; } assert (1 == 2); }")
	params := []api.Var{{Name: "i"}, {Name: "p", Ptr: true}}
	locals := []api.Var{{Name: "j"}, {Name: "q", Ptr: true}}
	f := api.Func{Name: "f", Params: params, Locals: locals, Body: []api.Stmt{{Kind: api.SCopy, X: "p", Y: "q"}}}
	checkResolved(t, head+"p = q; }", f)
	checkResolved(t, head+"p = ((q)); }", f)
	f.Body = []api.Stmt{{Kind: api.SCopy, X: "p", Y: "p"}, {Kind: api.SCopy, X: "q", Y: "p", At: 1}}
	checkResolved(t, head+"p = p; q = p; }", f)
	pointers := []api.Arg{{Ptr: true, Name: "p"}, {E: val("i")}, {Ptr: true, Name: "q"}, {E: sum("i", "c")}, {E: val("c")}, {Ptr: true, Name: "p"}}
	f.Body = []api.Stmt{{Kind: api.SCall, Y: "g", Args: pointers}, {Kind: api.SCall, X: "j", Y: "f", Args: pointers[:2], At: 1}}
	checkResolved(t, head+"g(p, i, q, i + c, c, (p)); j = f(p, i); }", f)
	f.Body = []api.Stmt{
		{Kind: api.SIf, C: isNull("p"), Then: []api.Stmt{{Kind: api.SCopy, X: "p", Y: "q", At: 1}}, Else: []api.Stmt{
			{Kind: api.SWhile, C: isNull("q"), At: 2, Then: []api.Stmt{
				{Kind: api.SCall, Y: "g", Args: []api.Arg{{Ptr: true, Name: "q"}}, At: 3}, {Kind: api.SCopy, X: "q", Y: "p", At: 4}}}}},
		{Kind: api.SAssign, X: "c", E: val("j"), At: 5}}
	checkResolved(t, head+"if (p == null) { p = q; } else { while (q == null) { g(q); q = p; } } c = j; }", f)
}

// P9.1: the name of the function is not that of its unit, or the unit is that of
// the globals.
func TestWrongUnit(t *testing.T) {
	for _, unit := range []string{"", "g", "F", "ff", "f ", "globals", "\xff"} {
		checkWrong(t, "fn f() {}", unit, -1, api.ErrUnit)
	}
	checkWrong(t, "fn globals() {}", "globals", -1, api.ErrUnit)
	checkWrong(t, "fn globals() {}", "f", -1, api.ErrUnit)
	for _, name := range []string{"g", "Globals", "global", "globals1", strings.Repeat("n", api.MaxName)} {
		f := parsed(t, "fn "+name+"(globals) { }")
		if got, at, e := Resolve(f, name); e != api.OK || at != 0 || dump(got) != dump(f) {
			t.Errorf("Resolve of %s: %d, %v, %s", name, at, e, dump(got))
		}
	}
}

// P9.1: two parameters or locals of one name, of whatever kinds.
func TestTwice(t *testing.T) {
	for _, s := range []string{"(a, a) {", "(a, *a) {", "(*a, a) {", "(*a, *a) {", "(a, b, c, d, e, a) {", "(b, a, *a, d) {",
		"(a) { var a;", "(a) { ptr a;", "(*a) { var a;", "(*a) { ptr a;", "(b, a) { var c; ptr a;",
		"() { var a; var a;", "() { var a; ptr a;", "() { ptr a; var a;", "() { ptr a; ptr a;", "() { ptr b; var a; ptr c; var d; var a;"} {
		checkWrong(t, "fn f"+s+" }", "f", -1, api.ErrTwice)
	}
	for _, s := range []string{"(a, A) { var _; var aa; }", "(f) { var globals; }", "(a) { var b; a(); a[1] = 1; }"} {
		if _, _, e := Resolve(parsed(t, "fn f"+s), "f"); e == api.ErrTwice {
			t.Errorf("Resolve of %q: %v", s, e)
		}
	}
	most := "fn f(a, b, c, d, e, g) {"
	for i := range api.MaxLocals {
		most += " var x" + string(rune('a'+i)) + ";"
	}
	checkResolved(t, most+"}", parsed(t, most+"}"))
	checkWrong(t, strings.Replace(most, "var xt;", "var g;", 1)+"}", "f", -1, api.ErrTwice)
	checkWrong(t, strings.Replace(most, "var xt;", "ptr xa;", 1)+"}", "f", -1, api.ErrTwice)
}

// P9.1: the errors come in the chapter's order.
func TestOrderOfErrors(t *testing.T) {
	checkWrong(t, "fn f(a, a) {}", "g", -1, api.ErrUnit)
	checkWrong(t, "fn f(a, a) {}", "f", -1, api.ErrTwice)
	checkWrong(t, "fn f(*a, a) { a = 1; }", "g", -1, api.ErrUnit)
	checkWrong(t, "fn f(*a) { a = 1; }", "g", -1, api.ErrUnit)
	checkWrong(t, "fn f(*a, *a) { a = 1; }", "f", -1, api.ErrTwice)
	checkWrong(t, "fn f(*a) { a = 1; }", "f", 0, api.ErrType)
	checkWrong(t, "fn globals(*a, a) { a = 1; }", "globals", -1, api.ErrUnit)
}

// P9.1: the first wrong statement, of several.
func TestFirstWrong(t *testing.T) {
	checkWrong(t, head+"i = 1; p = 1; q = 1; }", "f", 1, api.ErrType)
	checkWrong(t, head+"if (p == p) { p = 1; } }", "f", 0, api.ErrType)
	checkWrong(t, head+"if (c == c) { i = 1; while (p == null) { c = 1; } } else { if (c == 1) {} else { p = c; } } p = 1; }", "f", 5, api.ErrType)
	checkWrong(t, head+"if (c == c) { i = 1; while (p == null) { c = 1; } p = i; } else { p = c; } }", "f", 4, api.ErrType)
	checkWrong(t, head+"while (1 == 1) { while (i == 1) { while (i == null) { p = 1; } } } }", "f", 2, api.ErrType)
	checkWrong(t, head+"while (1 == 1) { while (1 == 1) { } p = 1; } p(); }", "f", 2, api.ErrType)
	checkWrong(t, head+"g(p + 1, i - p); return p; }", "f", 0, api.ErrType)
	many := strings.Repeat("i=1;", api.MaxStmts-1)
	checkWrong(t, head+many+"return p; }", "f", api.MaxStmts-1, api.ErrType)
	checkResolved(t, head+many+"return i; }", parsed(t, head+many+"return i; }"))
	deep := strings.Repeat("while(i==1){", api.MaxDepth-1)
	checkWrong(t, head+deep+"i();"+strings.Repeat("}", api.MaxDepth), "f", api.MaxDepth-1, api.ErrType)
	checkWrong(t, head+"i = "+strings.Repeat("-(", (api.MaxDepth-1)/2)+"p"+strings.Repeat(")", (api.MaxDepth-1)/2)+"; }", "f", 0, api.ErrType)
	checkWrong(t, head+"i = 1"+strings.Repeat(" + 1", 900)+" + p; }", "f", 0, api.ErrType)
}

// P9.1: which kind a name has does not hang on where it is declared.
func TestDeclarations(t *testing.T) {
	for _, s := range []string{"fn f(x, *y) {", "fn f(*y) { var x;", "fn f(x) { ptr y;", "fn f() { ptr y; var x;", "fn f(a, b, c, d, *y, x) {", "fn f() { var x; ptr a; ptr b; ptr y;"} {
		checkWrong(t, s+" y = 1; }", "f", 0, api.ErrType)
		checkWrong(t, s+" x = null; }", "f", 0, api.ErrType)
		checkWrong(t, s+" y = &x; }", "f", 0, api.ErrType)
		checkWrong(t, s+" x = 1; y = null; y = &z; x = *y; z = *y; g(y, x, z); y = x; }", "f", 6, api.ErrType)
	}
	checkWrong(t, "fn f() { x = 1; x = null; }", "f", 1, api.ErrType)
	checkResolved(t, "fn f() { x = x; x(x); x[x] = x; f = f[f] ; f(f); }", parsed(t, "fn f() { x = x; x(x); x[x] = x; f = f[f] ; f(f); }"))
}
