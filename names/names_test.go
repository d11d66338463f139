package names

import (
	"strings"
	"testing"

	"augur/api"
)

// P9.2: a name twice, among cells, arrays or both.
func TestCheck(t *testing.T) {
	for _, x := range []struct {
		cells, arrays string
		want          api.Errno
	}{
		{"", "", api.OK}, {"a", "", api.OK}, {"", "a", api.OK}, {"a b c", "d e f", api.OK}, {"a A _", "aa a1 a_", api.OK}, {"globals", "f", api.OK},
		{"a b a", "", api.ErrTwice}, {"a a", "", api.ErrTwice}, {"", "a a", api.ErrTwice}, {"", "b a c a", api.ErrTwice},
		{"a", "a", api.ErrTwice}, {"a b", "c d b", api.ErrTwice}, {"b a", "a b", api.ErrTwice}, {"a b c d e", "f g h i a", api.ErrTwice},
	} {
		g := api.Globals{Cells: strings.Fields(x.cells)}
		for _, name := range strings.Fields(x.arrays) {
			g.Arrays = append(g.Arrays, api.Array{Name: name, Len: 1 + len(g.Arrays)})
		}
		if got := Check(g); got != x.want {
			t.Errorf("Check of %s: %v, want %v", dump(g), got, x.want)
		}
	}
}

// P9.2: many names, each once, or one of them twice.
func TestCheckMany(t *testing.T) {
	var g api.Globals
	for i := range 5 * api.MaxGlobals {
		g.Cells = append(g.Cells, strings.Repeat("c", i))
		g.Arrays = append(g.Arrays, api.Array{Name: strings.Repeat("a", i+1), Len: -i})
	}
	if e := Check(g); e != api.OK {
		t.Errorf("Check: %v", e)
	}
	g.Cells[0] = "aa"
	if e := Check(g); e != api.ErrTwice {
		t.Errorf("Check: %v", e)
	}
}

// P9.2: each place of a statement alone.
func TestPlaces(t *testing.T) {
	for _, x := range []struct{ s, cells, arrays, calls string }{
		{"", "", "", ""},
		{"a = 1;", "a", "", ""}, {"i = a;", "a", "", ""}, {"i = j;", "", "", ""}, {"i = 1;", "", "", ""},
		{"i = a + b * -(c % d) - e / 2;", "a b c d e", "", ""}, {"i = j - -a;", "a", "", ""},
		{"p = &a;", "a", "", ""}, {"p = q;", "", "", ""}, {"p = null;", "", "", ""},
		{"a = *p;", "a", "", ""}, {"i = *p;", "", "", ""}, {"*p = 1;", "", "", ""}, {"*p = a - 1;", "a", "", ""},
		{"a = t[1];", "a", "t", ""}, {"i = t[a];", "a", "t", ""}, {"i = t[j];", "", "t", ""},
		{"t[a] = b;", "a b", "t", ""}, {"t[i] = 1;", "", "t", ""},
		{"g();", "", "", "g"}, {"a = g();", "a", "", "g"}, {"i = g();", "", "", "g"}, {"g(a, p, b + 1, i);", "a b", "", "g"}, {"f(f, a);", "a f", "", "f"},
		{"return a;", "a", "", ""}, {"return i + 1;", "", "", ""},
		{"assert (a == b);", "a b", "", ""}, {"assert (p == null);", "", "", ""}, {"assert (p != null && i < 1);", "", "", ""},
		{"assert (!(a <= 1 || 2 > b) && (c != 3 || d >= i) && !!-e == 5);", "a b c d e", "", ""},
		{"if (a < 1) { b = 1; } else { i = t[c]; }", "a b c", "t", ""}, {"if (i < 1) { } else { g(); }", "", "", "g"},
		{"while (a < 1) { while (b < 1) { c = u(); } }", "a b c", "", "u"}, {"while (p == null) { t[1] = 1; }", "", "t", ""},
		{"a = 1; a = a; a[a] = a; i = a(a); a();", "a", "a", "a"},
		{"b = 1; B = 1; b1 = 1; _ = 1; bb = 1; a = 1; b_ = 1;", "B _ a b b1 b_ bb", "", ""},
		{"z(); h(); z(); y[1] = 1; i = x[1]; x[1] = 1;", "", "x y", "h z"},
	} {
		checkNames(t, parsed(t, head+x.s+" }"), x.cells, x.arrays, x.calls)
		f, at, e := Resolve(parsed(t, head+x.s+" }"), "f")
		if e != api.OK {
			t.Errorf("Resolve of %q: %d, %v", x.s, at, e)
		}
		checkNames(t, f, x.cells, x.arrays, x.calls)
	}
	checkNames(t, parsed(t, "fn f(i, *p) { m = n[i]; g(a, p, b + 1); }"), "a b m", "n", "g")
}

// P9.2: names that the chapter lists also count in functions that Resolve
// refuses, and no others.
func TestPlacesOfRefused(t *testing.T) {
	for _, x := range []struct{ s, cells, arrays, calls string }{
		{"c = null;", "", "", ""}, {"*c = 1;", "", "", ""}, {"i = *c;", "", "", ""}, {"c = &d;", "d", "", ""}, {"p = &i;", "", "", ""},
		{"assert (c == null);", "", "", ""}, {"if (c != null) {}", "", "", ""}, {"i = p + c;", "c", "", ""}, {"p = c;", "c", "", ""}, {"c = p;", "c", "", ""},
		{"p = g(p + d);", "d", "", "g"}, {"i = j[1];", "", "j", ""}, {"p[1] = 2;", "", "p", ""}, {"i();", "", "", "i"}, {"c = q(p);", "c", "", "q"},
	} {
		f := parsed(t, head+x.s+" }")
		if _, _, e := Resolve(f, "f"); e != api.ErrType {
			t.Errorf("Resolve of %q: %v", x.s, e)
		}
		checkNames(t, f, x.cells, x.arrays, x.calls)
	}
	checkNames(t, parsed(t, "fn f(a, *a) { var b; var b; a = b; c = d; }"), "c d", "", "")
	checkNames(t, api.Func{}, "", "", "")
}

// P9.2: as many names as a function may have, in lists that are sorted.
func TestManyNames(t *testing.T) {
	var s, want strings.Builder
	s.WriteString("fn f() {")
	for a := 'z'; a >= 'a'; a-- {
		for b := '7'; b >= '1'; b-- {
			s.WriteString(string(a) + string(b) + "();")
		}
	}
	s.WriteString("}")
	for a := 'a'; a <= 'z'; a++ {
		for b := '1'; b <= '7'; b++ {
			want.WriteString(string(a) + string(b) + " ")
		}
	}
	checkNames(t, parsed(t, s.String()), "", "", want.String())
	checkNames(t, parsed(t, strings.ReplaceAll(s.String(), "();", "=1;")), want.String(), "", "")
	checkNames(t, parsed(t, strings.ReplaceAll(s.String(), "();", "[1]=1;")), "", want.String(), "")
}
