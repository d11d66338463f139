package parse

import (
	"strings"
	"testing"

	"augur/api"
)

// wrongFunctions are texts in which @ stands ahead of the first token that does
// not fit, or at the end if there should be one more; @ itself is taken out. In
// wrongBodies it is the same with what stands between the braces of a function.
var wrongFunctions = []string{
	"@", " # a\n@", "@f", "@{", "fn@", "fn @(", "fn f@", "fn f @{", "fn f(@", "fn f(x@", "fn f(x,@", "fn f() @", "fn f() # {\n@",
	"fn f(@,x) {}", "fn f(x,@) {}", "fn f(x @y) {}", "fn f(*@*x) {}", "fn f(x @*y) {}", "fn f(@1) {}", "fn f(@(x)) {}", "fn f(x@; y) {}",
	"fn f() @;", "fn f() {@", "fn f() {} @x", "fn f() {}@}", "fn f() {} @fn g() {}", "fn f() {}@;", "fn @fn f() {}", "@cell c;",
	"fn f() { var @", "fn f() { var x@", "fn f() { var x @, y; }", "fn f() { var @*x; }", "fn f() { var x @= 1; }", "fn f() { ptr @1; }",
	"fn f() { ptr p;@", "fn f() { var x; @{ } }", "fn f() { var x; @cell y; }", "fn f() { ptr @ptr p; }", "fn f() { var x;@; }",
}

var wrongBodies = []string{
	// how statements begin and end
	"@;", "x@", "x@;", "x @x", "x @== 1;", "x =@", "x = @;", "x = 1@", "x = 1 @}", "x = 1;@;", "@1 = x;", "@(x) = 1;", "@- x;", "@{ }", "@&x = 1;",
	"x = 1;@", "*@var x;", "x = 1; @var y;", "x = 1; @ptr p;", "g(); @cell y;",
	// values
	"x = 1 @1;", "x = a @b;", "x = y @= 1;", "x = 1 + @;", "x = @+ 1;", "x = 1 @(2);", "x = 1 * @/ 2;", "x = (@);", "x = (1@;", "x = (1 @, 2);",
	"x = ((1)@;", "x = 1@);", "x = @!1;", "x = 1 @== 2;", "x = 1 @&& 2;", "x = @;", "x = (@",
	"x = null @+ 1;", "x = 1 + @null;", "x = (@null);", "x = -@null;", "x = &@", "x = &@1;", "x = & @& y;", "x = &y @+ 1;", "x = &y@[1];", "x = 1 + @&y;",
	"x = *@(y);", "x = *y @+ 1;", "x = 1 + @*y;", "x = *@*y;", "x = *@1;", "x = -@*y;", "x = (@*y);", "x = @= 1;",
	"x = y[1] @+ 2;", "x = y[@];", "x = y[1@;", "x = y[1@, 2];", "x = y[1]@[2];", "x = 1 + y@[1];", "x = (y@[1]);", "x = y[z@[1]];", "x = y[@null];",
	"x = g(1) @+ 2;", "x = g(1)@(2);", "x = 1 + g@(1);", "x = g(h@(1));", "x = g(y@[1]);", "x = -g@(1);", "x = 1@[1];", "x = (y)@[1];", "x = (g)@(1);",
	// other statements
	"g(@,);", "g(1,@);", "g(1 @2);", "g(1@;", "g(@null);", "g(@&x);", "g(@*x);", "g(1) @= 2;", "g()@", "g() @}", "g@;", "g() @+ 1;",
	"y[1]@;", "y[1] = @null;", "y[1] = z@[1];", "y[1] = g@();", "y[1] = @&z;", "y[1] = @*z;", "y[1] @== 1;", "y[1]@[2] = 1;", "y[@] = 1;", "y@{1} = 1;",
	"*@1 = 2;", "*x @+ 1 = 2;", "*@*x = 1;", "*x@;", "*x = @null;", "*x = @&y;", "*x = @*y;", "*x = g@();", "*x = y@[1];", "*x@[1] = 1;", "*x@(1);", "*@(x) = 1;",
	"return@;", "return @null;", "return g@();", "return @*p;", "return @&x;", "return y@[1];", "return 1@", "return x @== 1;", "return @return 1;",
	// conditions
	"assert @x == 1;", "assert (@);", "assert (x == 1@;", "assert (x == 1) @}", "assert (x@);", "assert (1@);", "assert (x == 1@", "assert (x == 1)@",
	"assert (@null);", "assert (@null == x);", "assert (@null == null);", "assert (1 == @null);", "assert (x + 1 == @null);", "assert (-x == @null);",
	"assert (x < @null);", "assert (x == @);", "assert (x ==@", "assert (x == null @+ 1);", "assert (x == null @== 1);", "assert (x != (@null));",
	"assert (x == @&y);", "assert (x == @!y);", "assert (x @= 1);", "assert (x @! = 1);", "assert (x == @*y);", "assert (@*x == 1);", "assert (@&x == null);",
	"assert ((x@));", "assert ((x@) == 1);", "assert ((x + 1@) == 2);", "assert ((p == null) @== 1);", "assert ((x == 1) @+ 1);", "assert ((x == 1@;",
	"assert (!@);", "assert (!x@);", "assert (!(x@));", "assert (!1@);", "assert (-@!x == 1);", "assert ((x@) == null);", "assert (-(x @== 1));",
	"assert (x == 1 &&@);", "assert (x == 1 && @&& x == 1);", "assert (@|| x == 1);", "assert (x == 1 || y@);", "assert (x == 1 @x == 1);", "assert (x == 1 @! x == 1);",
	"assert (x < 1 @< 2);", "assert (x == y@(1));", "assert (x@[1] == 1);", "assert (x@(1) == 1);", "assert (x @& y);", "assert (x == 1@, x == 1);",
	// blocks
	"if @x == 1 { }", "if (x == 1)@", "if (x == 1) @x = 1;", "if (x == 1) @else { }", "if (x == 1) {@", "if (x == 1) { }@", "if (x == 1) { } else @", "if@",
	"if (x == 1) { } else @if (x == 1) { }", "if (x == 1) { } else @x = 1;", "if (x == 1) { } else { } @else { }", "if (x == 1) { @var x; }", "if (x == 1) { }@;",
	"@else { }", "x = 1; @else { }", "while @{ }", "while (@) { }", "while (x == 1)@;", "while (x == 1) { } @else { }", "while (x == 1) { @ptr p; }", "while (x == 1) { } @)",
}

// P7.2: the first token that does not fit is the error; what follows it is not
// looked at.
func TestWrong(t *testing.T) {
	checkWrong := func(s string) {
		t.Helper()
		before, after, _ := strings.Cut(s, "@")
		checkError(t, before+after, len(before), api.ErrParse)
		if after != "" {
			checkError(t, before+after+" } ) fn null == var x; else {", len(before), api.ErrParse)
		}
	}
	for _, s := range wrongFunctions {
		checkWrong(s)
	}
	for _, s := range wrongBodies {
		checkWrong("fn f() { " + s)
		checkWrong("fn f(x, *p) { var y; ptr q; g(x, y); while (p == q) { if (p == null) { } else { " + s)
	}
}
