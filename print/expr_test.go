package print

import (
	"testing"

	"augur/api"
)

func checkExpr(t *testing.T, e *api.Expr, want string) {
	t.Helper()
	if got := Expr(e); got != want {
		t.Errorf("Expr(%s) = %q, want %q", dump(e), got, want)
	}
}

func checkCond(t *testing.T, c *api.Cond, want string) {
	t.Helper()
	if got := Cond(c); got != want {
		t.Errorf("Cond(%s) = %q, want %q", dump(c), got, want)
	}
}

// P8.1: numbers and variables.
func TestLeaves(t *testing.T) {
	checkExpr(t, num(0), "0")
	checkExpr(t, num(10), "10")
	checkExpr(t, num(1<<63-1), "9223372036854775807")
	checkExpr(t, num(-5), "-5")
	checkExpr(t, num(-1<<63), "-9223372036854775808")
	checkExpr(t, val("abc"), "abc")
	checkExpr(t, val(""), "")
	checkExpr(t, &api.Expr{Kind: api.EVar, N: 3, Name: "x", A: val("a"), B: val("b")}, "x")
	checkExpr(t, &api.Expr{Kind: api.ENum, N: 3, Name: "x", A: val("a"), B: val("b")}, "3")
}

// P8.1: the example of the chapter, and the same grouped from the left.
func TestDifferences(t *testing.T) {
	a, b, c := val("a"), val("b"), val("c")
	checkExpr(t, binary(api.ESub, a, binary(api.ESub, b, c)), "a - (b - c)")
	checkExpr(t, binary(api.ESub, binary(api.ESub, a, b), c), "a - b - c")
}

// P8.1: each kind as an operand of each kind, on each side.
func TestOperands(t *testing.T) {
	sums := []string{" + ", " - "}
	products := []string{" * ", " / ", " % "}
	names := append(sums, products...)
	for i, outer := range names {
		outerSum := i < len(sums)
		for j, inner := range names {
			innerSum := j < len(sums)
			part := binary(api.EAdd+j, val("a"), val("b"))
			in := "a" + inner + "b"
			left := enclosed(in, !outerSum && innerSum) + outer + "c"
			right := "c" + outer + enclosed(in, !outerSum || innerSum)
			checkExpr(t, binary(api.EAdd+i, part, val("c")), left)
			checkExpr(t, binary(api.EAdd+i, val("c"), part), right)
			checkExpr(t, neg(part), "-("+in+")")
		}
		checkExpr(t, binary(api.EAdd+i, neg(val("a")), neg(val("b"))), "-a"+outer+"-b")
		checkExpr(t, binary(api.EAdd+i, num(-1), num(-2)), "-1"+outer+"-2")
	}
	checkExpr(t, neg(neg(val("a"))), "--a")
	checkExpr(t, neg(num(-1)), "--1")
	checkExpr(t, neg(num(1)), "-1")
}

// P8.1: comparisons. Their operands are in no parentheses.
func TestComparisons(t *testing.T) {
	for kind, want := range []string{"a == b", "a != b", "a < b", "a <= b", "a > b", "a >= b"} {
		checkCond(t, compared(kind, val("a"), val("b")), want)
	}
	sum := binary(api.EAdd, val("a"), val("b"))
	checkCond(t, compared(api.CEq, sum, sum), "a + b == a + b")
	checkCond(t, compared(api.CLt, binary(api.EMul, sum, val("c")), val("d")), "(a + b) * c < d")
	checkCond(t, compared(api.CGe, neg(sum), num(0)), "-(a + b) >= 0")
}

// P8.1: each kind of condition as a part of each kind, on each side.
func TestParts(t *testing.T) {
	parts := []*api.Cond{less("a"), isNull("p"), not(isNull("p")), not(less("a")), joined(api.CAnd, less("a"), less("b")), joined(api.COr, less("a"), less("b"))}
	texts := []string{"a < 1", "p == null", "p != null", "!(a < 1)", "a < 1 && b < 1", "a < 1 || b < 1"}
	const and, or = 4, 5
	for i, part := range parts {
		checkCond(t, part, texts[i])
		checkCond(t, joined(api.CAnd, part, less("c")), enclosed(texts[i], i == or)+" && c < 1")
		checkCond(t, joined(api.CAnd, less("c"), part), "c < 1 && "+enclosed(texts[i], i == and || i == or))
		checkCond(t, joined(api.COr, part, less("c")), texts[i]+" || c < 1")
		checkCond(t, joined(api.COr, less("c"), part), "c < 1 || "+enclosed(texts[i], i == or))
	}
	checkCond(t, not(parts[and]), "!(a < 1 && b < 1)")
	checkCond(t, not(parts[or]), "!(a < 1 || b < 1)")
}

// P8.1: a not of a not is in no parentheses, and null has its own form.
func TestNots(t *testing.T) {
	checkCond(t, not(not(less("a"))), "!!(a < 1)")
	checkCond(t, not(not(not(less("a")))), "!!!(a < 1)")
	checkCond(t, isNull("p"), "p == null")
	checkCond(t, not(isNull("p")), "p != null")
	checkCond(t, not(not(isNull("p"))), "!p != null")
	checkCond(t, not(not(not(isNull("p")))), "!!p != null")
}
