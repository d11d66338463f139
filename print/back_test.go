package print

import (
	"math/rand"
	"strconv"
	"strings"
	"testing"

	"augur/api"
	"augur/parse"
)

// texter writes random texts that denote functions, with parentheses and blanks
// that need not be there.
type texter struct {
	*rand.Rand
	stmts int
}

func (w *texter) pick(words ...string) string { return words[w.Intn(len(words))] }

func (w *texter) name() string { return w.pick("a", "b", "x", "p", "_", "If", "n1") }

func (w *texter) sum(depth int) string {
	s := w.product(depth)
	for w.Intn(3) == 0 {
		s += w.pick("+", "-", " - ") + w.product(depth)
	}
	return s
}

func (w *texter) product(depth int) string {
	s := w.operand(depth)
	for w.Intn(3) == 0 {
		s += w.pick("*", "/", "%", " % ") + w.operand(depth)
	}
	return s
}

func (w *texter) operand(depth int) string {
	if depth > 0 && w.Intn(3) == 0 {
		return "(" + w.sum(depth-1) + ")"
	}
	return w.start(depth)
}

// start writes what may begin a comparison, too.
func (w *texter) start(depth int) string {
	if depth > 0 && w.Intn(3) == 0 {
		return "-" + w.operand(depth-1)
	}
	return w.pick(w.name(), "0", "7", "9223372036854775807", " 10")
}

func (w *texter) cond(depth int) string {
	s := w.and(depth)
	for w.Intn(3) == 0 {
		s += w.pick("||", " || ") + w.and(depth)
	}
	return s
}

func (w *texter) and(depth int) string {
	s := w.not(depth)
	for w.Intn(3) == 0 {
		s += w.pick("&&", " && ") + w.not(depth)
	}
	return s
}

func (w *texter) not(depth int) string {
	if depth > 0 {
		switch w.Intn(4) {
		case 0:
			return "!" + w.not(depth-1)
		case 1:
			return "(" + w.cond(depth-1) + ")"
		}
	}
	if w.Intn(3) == 0 {
		return w.name() + w.pick("==", "!=") + "null"
	}
	return w.start(depth) + w.pick("", "+a", "*b", "-(a)") + w.pick("==", "!=", "<", "<=", ">", ">=") + w.sum(depth)
}

func (w *texter) function(depth int) string {
	params := []string{"", "a", "*p", "a,*p", "*p,*q,a , b"}
	locals := []string{"", "var x;", "ptr q;", "var x;ptr q;var y;\n"}
	return "fn " + w.name() + "(" + w.pick(params...) + "){" + w.pick(locals...) + w.block(depth) + "}"
}

func (w *texter) block(depth int) string {
	var s strings.Builder
	for range w.Intn(4) {
		if w.stmts++; w.stmts < api.MaxStmts {
			s.WriteString(w.stmt(depth))
		}
	}
	return s.String()
}

func (w *texter) stmt(depth int) string {
	if depth > 0 {
		switch w.Intn(4) {
		case 0:
			return "if(" + w.cond(depth) + "){" + w.block(depth-1) + "}" + w.pick("", "else{"+w.block(depth-1)+"}")
		case 1:
			return "while(" + w.cond(depth) + "){" + w.block(depth-1) + "}"
		}
	}
	value := w.pick("null", "&a", "*p", "t["+w.sum(depth)+"]", w.call(depth), w.sum(depth), "p")
	return w.pick(w.name()+"="+value, w.call(depth), "t["+w.sum(depth)+"]="+w.sum(depth), "*p="+w.sum(depth),
		"return "+w.sum(depth), "assert("+w.cond(depth)+")") + ";"
}

func (w *texter) call(depth int) string {
	return w.name() + "(" + w.pick("", w.sum(depth), w.sum(depth)+","+w.sum(depth)) + ")"
}

// checkBack checks that the text of the function that s denotes denotes it, too.
func checkBack(t *testing.T, s string) {
	t.Helper()
	f, at, e := parse.Func(s)
	if e != api.OK {
		t.Fatalf("parse.Func(%q): %d, %v", s, at, e)
	}
	text := Func(f)
	got, at, e := parse.Func(text)
	if e != api.OK || dump(got) != dump(f) {
		t.Fatalf("of %q\nparse.Func(%q): %d, %v\ngot  %s\nwant %s", s, text, at, e, dump(got), dump(f))
	}
	if again := Func(got); again != text {
		t.Fatalf("of %q\ngot  %q\nwant %q", s, again, text)
	}
}

// P8.3: every form.
func TestBackForms(t *testing.T) {
	checkBack(t, "fn f(){}")
	checkBack(t, "fn f(x,*p){var y;ptr q;p=&x;p=q;p=null;x=*p;*p=x;x=t[0];t[1]=2;f(x,p);x=f();return x;assert(x<1);}")
	checkBack(t, "fn f(){if(p==null){}if(p!=null){x=1;}else{y=2;}if(!p==null){}else{while(!!p!=null){x=1;}y=2;}z=3;}")
	for _, s := range []string{"a-(b-c)", "(a-b)-c", "-(-a)", "-(a*b)", "(-a)*b", "a*(b/c)", "(a*b)/c", "(a+b)%(c+d)", "--a- -b", "((a))"} {
		checkBack(t, "fn f(){x="+s+";}")
	}
	for _, s := range []string{"!a==1", "!(a==1)", "(a==1&&b==2)&&c==3", "a==1&&(b==2&&c==3)", "a==1||b==2&&c==3", "(a==1||b==2)&&(c==3||d==4)", "!(p==null)", "!(!p==null)", "-(a+b)<c", "((p!=null))"} {
		checkBack(t, "fn f(){assert("+s+");}")
	}
}

// P8.3: random functions, of which the text is short enough to be read again.
func TestBackRandom(t *testing.T) {
	r := rand.New(rand.NewSource(83))
	done := 0
	for range 4000 {
		w := &texter{Rand: r}
		s := w.function(w.Intn(5))
		f, _, e := parse.Func(s)
		if e == api.ErrLong || len(Func(f)) > api.MaxText {
			continue
		}
		checkBack(t, s)
		done++
	}
	if done < 2000 {
		t.Errorf("only %d functions were short enough", done)
	}
}

// P8.3: as many of everything, and as deep, as a function may have.
func TestBackLimits(t *testing.T) {
	checkBack(t, "fn f(a,b,c,d,e,g){}")
	checkBack(t, "fn f(){"+strings.Repeat("var x;", api.MaxLocals)+"}")
	checkBack(t, "fn f(){"+strings.Repeat("f();", api.MaxStmts)+"}")
	checkBack(t, "fn f(){x="+strings.Repeat("-", api.MaxDepth-1)+"a;}")
	checkBack(t, "fn f(){x="+strings.Repeat("a-(", api.MaxDepth-1)+"b+c"+strings.Repeat(")", api.MaxDepth-1)+";}")
	checkBack(t, "fn f(){x=-"+strings.Repeat("(", api.MaxDepth-2)+"b*c"+strings.Repeat(")", api.MaxDepth-2)+";}")
	checkBack(t, "fn f(){assert("+strings.Repeat("!", api.MaxDepth-1)+"p==null);}")
	checkBack(t, "fn f(){assert("+strings.Repeat("!(", api.MaxDepth/2-1)+"a==1"+strings.Repeat(")", api.MaxDepth/2-1)+");}")
	blocks := api.MaxDepth - 1
	checkBack(t, "fn f(){"+strings.Repeat("while(a<1){", blocks)+strings.Repeat("}", blocks)+"}")
	for _, n := range []int{0, 1, 1 << 20} {
		checkBack(t, "fn f(){x="+strconv.Itoa(n)+";}")
	}
	checkBack(t, "fn "+strings.Repeat("n", api.MaxName)+"(){}")
}

// P8.3: the lines of globals declare the same ones.
func TestBackGlobals(t *testing.T) {
	for _, s := range []string{"", "cell c;", "array a[1];", "array a[1048576];cell c;array b[2];cell d;"} {
		g, _, e := parse.Globals(s)
		if e != api.OK {
			t.Fatalf("parse.Globals(%q): %v", s, e)
		}
		got, at, e := parse.Globals(Globals(g))
		if e != api.OK || dump(got) != dump(g) {
			t.Errorf("parse.Globals(%q): %d, %v, %s, want %s", Globals(g), at, e, dump(got), dump(g))
		}
	}
}
