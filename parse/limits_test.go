package parse

import (
	"strings"
	"testing"

	"augur/api"
)

// repeated joins n times s.
func repeated(s string, n int) string { return strings.Repeat(s, n) }

// P7.2: the errors of lex.Tokens come first, wherever they are.
func TestErrorsOfTokens(t *testing.T) {
	checkError(t, "fn f() { x = $; }", 13, api.ErrLex)
	checkError(t, "} ) fn $", 7, api.ErrLex)
	checkError(t, "x 01", 2, api.ErrLex)
	checkError(t, "fn f() {} |", 10, api.ErrLex)
	checkError(t, "fn f() { x = 9223372036854775808; }", 13, api.ErrLong)
	checkError(t, "fn f() { x = -9223372036854775808; }", 14, api.ErrLong)
	checkError(t, "fn "+repeated("n", api.MaxName+1)+"() {}", 3, api.ErrLong)
	checkError(t, "fn f(a,b,c,d,e,g,h) { x = "+repeated("-", 50)+"1a; }", 76, api.ErrLex)
	checkError(t, "fn f() {}"+repeated(" ", api.MaxText-9)+" ", 0, api.ErrLong)
	checkFunc(t, "fn f() {}"+repeated(" ", api.MaxText-9), api.Func{Name: "f"})
	checkFunc(t, "fn f() {} #"+repeated("$", api.MaxText-11), api.Func{Name: "f"})
	checkError(t, "fn f() {"+repeated(" ", api.MaxText-8), api.MaxText, api.ErrParse)
	checkGlobalsError(t, "x $", 2, api.ErrLex)
	checkGlobalsError(t, "cell c; 00", 8, api.ErrLex)
	checkGlobalsError(t, "array a[9223372036854775808];", 8, api.ErrLong)
	checkGlobalsError(t, "fn array a[0]; cell "+repeated("c", api.MaxName+1)+";", 20, api.ErrLong)
	checkGlobalsError(t, "cell c;"+repeated("\n", api.MaxText), 0, api.ErrLong)
	checkGlobals(t, "cell c;"+repeated("\n", api.MaxText-7), api.Globals{Cells: []string{"c"}})
}

// P7.2: as many parameters, locals and statements as there may be, and one more.
func TestTooMany(t *testing.T) {
	checkError(t, "fn f(a,b,c,d,e,g,h) {}", 17, api.ErrLong)
	for _, more := range []string{"h", "h)", "h, i) {}", "h * 1"} {
		checkError(t, "fn f(a,*b,c,d,e,g, "+more, 19, api.ErrLong)
		checkError(t, "fn f(a,*b,c,d,e,g, * "+more, 21, api.ErrLong)
	}
	checkError(t, "fn f(a,b,c,d,e,g,1) {}", 17, api.ErrParse)
	checkError(t, "fn f(a,b,c,d,e,g,) {}", 17, api.ErrParse)
	checkError(t, "fn f(a,b,c,d,e,g,*if) {}", 18, api.ErrParse)
	if f, at, e := Func("fn f(a,*b,c,d,e,*g) { ptr h; }"); e != api.OK || len(f.Params) != api.MaxParams {
		t.Errorf("parameters: %d, %v, %s", at, e, dump(f))
	}
	for _, word := range []string{"var", "ptr"} {
		head := "fn f(a, b) {" + repeated("var x;ptr p;", api.MaxLocals/2)
		if f, at, e := Func(head + "}"); e != api.OK || len(f.Locals) != api.MaxLocals {
			t.Errorf("locals: %d, %v, %s", at, e, dump(f))
		}
		for _, more := range []string{" y", " y; }", " y +"} {
			checkError(t, head+word+more, len(head)+4, api.ErrLong)
		}
		for _, more := range []string{" ;", "", " 1;", " var", " null"} {
			checkError(t, head+word+more, len(head)+min(len(more), 1)+3, api.ErrParse)
		}
	}
}

// P7.2: statements count wherever they stand, once they begin.
func TestTooManyStatements(t *testing.T) {
	head := "fn f() {" + repeated("g();", api.MaxStmts)
	if f, at, e := Func(head + "}"); e != api.OK || len(f.Body) != api.MaxStmts || f.Body[199].At != 199 {
		t.Errorf("statements: %d, %v, %s", at, e, dump(f))
	}
	for _, more := range []string{"x = 1;}", "g();}", "a[1] = 2;", "*p = 1;}", "return 0;}", "assert (x == 1);}", "if (x == 1) {}}", "while (x == 1) {}}",
		"x", "x;", "*", "* 1", "if", "if x", "while {", "return;", "assert null"} {
		checkError(t, head+more, len(head), api.ErrLong)
	}
	for _, more := range []string{"1}", "", ";", "else {}", "var x;", "null", "(x) = 1;", "{"} {
		checkError(t, head+more, len(head), api.ErrParse)
	}
	nested := "fn f() {" + repeated("if(x==1){g();}else{while(x==1){*p=1;}}", api.MaxStmts/4-1) + "x=1;while(x==1){x=1;"
	if f, at, e := Func(nested + "if(x==1){}else{}}}"); e != api.OK || f.Body[len(f.Body)-1].Then[1].At != 199 {
		t.Errorf("nested statements: %d, %v, %s", at, e, dump(f))
	}
	checkError(t, nested+"if(x==1){x=1;}}}", len(nested)+9, api.ErrLong)
	checkError(t, nested+"if(x==1){}else{return 1;}}}", len(nested)+15, api.ErrLong)
	checkError(t, nested+"while(x==1){}}*p=1;}", len(nested)+14, api.ErrLong)
}

// openers are what counts as nesting, with what ends it.
var openers = []struct{ before, open, inside, end, after string }{
	{"x = ", "(", "1", ")", ";"},
	{"x = ", "-", "1", "", ";"},
	{"x = 1 + 2 * ", "-", "y", "", " - 1;"},
	{"a[", "(", "1", ")", "] = 1;"},
	{"a[1] = ", "(", "1", ")", ";"},
	{"x = a[", "-", "1", "", "];"},
	{"g(1, ", "(", "1", ")", ");"},
	{"x = g(", "-", "1", "", ");"},
	{"*p = ", "(", "1", ")", ";"},
	{"return ", "-", "1", "", ";"},
	{"assert (", "(", "x == 1", ")", ");"},
	{"assert (p == null || ", "(", "p == null", ")", ");"},
	{"if (", "!", "p == null", "", ") {}"},
	{"while (", "!", "1 < 2", "", " && x == 1) {}"},
	{"while (x == ", "(", "1", ")", ") {}"},
	{"assert (", "-", "x", "", " < 1);"},
	{"", "while (p == null) {", "x = 1;", "}", ""},
	{"", "if (1 < 2) {", "", "}", " else {}"},
}

// P7.2: as much nesting as there may be, and one more. The block of the function
// counts too.
func TestTooDeep(t *testing.T) {
	for _, o := range openers {
		const most = api.MaxDepth - 1
		head := "fn f() { " + o.before
		if _, at, e := Func(head + repeated(o.open, most) + o.inside + repeated(o.end, most) + o.after + "}"); e != api.OK {
			t.Errorf("%s %d times: %d, %v", o.open, most, at, e)
		}
		// What opens a block is at its end.
		wantAt := len(head) + (most+1)*len(o.open) - 1
		checkError(t, head+repeated(o.open, most+1)+o.inside+repeated(o.end, most+1)+o.after+"}", wantAt, api.ErrDeep)
		checkError(t, head+repeated(o.open, most+1), wantAt, api.ErrDeep)
		checkError(t, head+repeated(o.open, 3*api.MaxDepth), wantAt, api.ErrDeep)
		checkError(t, head+repeated(o.open, most)+"]", len(head)+most*len(o.open), api.ErrParse)
		checkError(t, head+repeated(o.open, most), len(head)+most*len(o.open), api.ErrParse)
	}
}

// P7.2: blocks of else nest like the others.
func TestDeepElse(t *testing.T) {
	deep := "fn f() {" + repeated("if (x == 1) {} else {", api.MaxDepth-2)
	for _, s := range []string{"", "x = -1;", "if (x == 1) {} else {}", "if (!x == 1) {}"} {
		if _, at, e := Func(deep + s + repeated("}", api.MaxDepth-1)); e != api.OK {
			t.Errorf("%s 39 deep: %d, %v", s, at, e)
		}
	}
	deep += "if (x == 1) {} else {"
	checkError(t, deep+"x = 1 - -1;", len(deep)+8, api.ErrDeep)
	checkError(t, deep+"if (x == 1) {} else {}", len(deep)+12, api.ErrDeep)
}

// P7.2: different ones that are open within one another count together.
func TestMixedDepth(t *testing.T) {
	head := "fn f() { if (p == null) {" + repeated("while (x == 1) {", 9) + "assert ("
	for n := range 6 {
		deepest := repeated("!(", 13) + "1 < " + repeated("-", n)
		_, at, e := Func(head + deepest + "(1)" + repeated(")", 13) + ");" + repeated("}", 11))
		switch {
		case n < 3 && e != api.OK:
			t.Errorf("%d levels: %d, %v", 11+26+n+1, at, e)
		case n == 3 && (e != api.ErrDeep || at != len(head+deepest)):
			t.Errorf("41 levels: %d, %v", at, e)
		case n > 3 && (e != api.ErrDeep || at != len(head+repeated("!(", 13)+"1 < ---")):
			t.Errorf("%d levels: %d, %v", 11+26+n+1, at, e)
		}
	}
}

// P7.2: what has ended, and what is no nesting, does not count.
func TestBesideOneAnother(t *testing.T) {
	for _, body := range []string{
		"x = " + repeated("(1) + ", 200) + "1;",
		"x = " + repeated("-1 - ", 200) + "1;",
		"x = " + repeated("-(-1) * ", 100) + "1;",
		"g(" + repeated("-(1), ", 200) + "1);",
		"assert (" + repeated("(x == 1) && ", 100) + "x == 1);",
		"assert (" + repeated("!x == 1 || ", 100) + "x == 1);",
		"assert (" + repeated("!!(!(x == -(1))) || ", 100) + "x == 1);",
		repeated("if(x==1){}else{}", api.MaxStmts),
		repeated("if (x == 1) {x = -1;} else {while (p == null) {}}", 60),
		repeated("g((1));", api.MaxStmts),
	} {
		if _, at, e := Func("fn f() { " + body + "}"); e != api.OK {
			t.Errorf("%.40q ..: %d, %v", body, at, e)
		}
	}
	deep := "fn f() {" + repeated("while(x==1){", api.MaxDepth-1)
	end := repeated("}", api.MaxDepth)
	for _, s := range []string{"x = a[1];", "a[x] = 1;", "g(1);", "x = g();", "assert (x == 1);", "assert (p == null && q != null);", "*p = 1;", "p = &x;", "p = null;", "x = *p;", "return 1 - 1;"} {
		if _, at, e := Func(deep + s + end); e != api.OK {
			t.Errorf("%s 40 deep: %d, %v", s, at, e)
		}
	}
	for s, at := range map[string]int{"if (x == 1) {}": 12, "while (x == 1) {}": 15, "x = -1;": 4, "g((1));": 2, "a[-1] = 1;": 2, "assert (!x == 1);": 8, "assert ((x == 1));": 8} {
		checkError(t, deep+s+end, len(deep)+at, api.ErrDeep)
	}
}

// P7.3: cells and arrays, each in order.
func TestGlobals(t *testing.T) {
	checkGlobals(t, "", api.Globals{})
	checkGlobals(t, " # cell a;\n", api.Globals{})
	checkGlobals(t, "cell a;", api.Globals{Cells: []string{"a"}})
	checkGlobals(t, "array a[1];", api.Globals{Arrays: []api.Array{{Name: "a", Len: 1}}})
	checkGlobals(t, "array b[10]; cell z; cell x; array a[1048576];cell y;", api.Globals{Cells: []string{"z", "x", "y"},
		Arrays: []api.Array{{Name: "b", Len: 10}, {Name: "a", Len: api.MaxLen}}})
	checkGlobals(t, "cell a; array a[2]; cell a;", api.Globals{Cells: []string{"a", "a"}, Arrays: []api.Array{{Name: "a", Len: 2}}})
}

// P7.3: the first token that does not fit, and what is too long.
func TestWrongGlobals(t *testing.T) {
	for _, s := range []string{"@x", "@x;", "cell@", "cell @;", "cell @1;", "cell @cell;", "cell a@", "cell a @b;", "cell a@, b;", "cell a@[1];", "cell a; @b;", "cell a;@;", "cell a; @fn f() {}",
		"array@", "array @[1];", "array @1[1];", "array a@", "array a@;", "array a@(1);", "array a[@", "array a[@];", "array a[@x];", "array a[@-1];", "array a[@(1)];", "array a[@0];",
		"array a[1@", "array a[1@;", "array a[1 @+ 1];", "array a[1]@", "array a[1]@[2];", "array a[1] @cell b;", "array a[1];@]", "@1", "@fn f() {}", "@var x;", "@{ cell a; }"} {
		before, after, _ := strings.Cut(s, "@")
		checkGlobalsError(t, before+after, len(before), api.ErrParse)
		if after != "" {
			checkGlobalsError(t, before+after+" array a[0]; cell 1", len(before), api.ErrParse)
		}
	}
	for _, n := range []string{"1048577", "1048578", "9223372036854775807", "4294967297"} {
		checkGlobalsError(t, "array a["+n+"];", 8, api.ErrLong)
		checkGlobalsError(t, "cell b; array a["+n, 16, api.ErrLong)
	}
}

// P7.3: as many globals as there may be, and one more.
func TestTooManyGlobals(t *testing.T) {
	for _, head := range []string{repeated("cell a;", api.MaxGlobals), repeated("array a[1];", api.MaxGlobals), repeated("array a[1];cell a;", api.MaxGlobals/2)} {
		if g, at, e := Globals(head); e != api.OK || len(g.Cells)+len(g.Arrays) != api.MaxGlobals {
			t.Errorf("%s: %d, %v", head, at, e)
		}
		checkGlobalsError(t, head+"cell a;", len(head)+5, api.ErrLong)
		checkGlobalsError(t, head+"cell a", len(head)+5, api.ErrLong)
		checkGlobalsError(t, head+"array a[0];", len(head)+6, api.ErrLong)
		checkGlobalsError(t, head+"array a 1", len(head)+6, api.ErrLong)
		checkGlobalsError(t, head+"cell 1;", len(head)+5, api.ErrParse)
		checkGlobalsError(t, head+"array", len(head)+5, api.ErrParse)
		checkGlobalsError(t, head+"fn", len(head), api.ErrParse)
	}
}
