package names

import (
	"encoding/json"
	"slices"
	"strings"
	"testing"

	"augur/api"
	"augur/parse"
)

// parsed returns the function that a text denotes.
func parsed(t *testing.T, s string) api.Func {
	t.Helper()
	f, at, e := parse.Func(s)
	if e != api.OK {
		t.Fatalf("parse.Func(%q): %d, %v", s, at, e)
	}
	return f
}

// dump writes all fields of a tree. What is nil and what is empty is the same.
func dump(tree any) string {
	b, err := json.Marshal(tree)
	if err != nil {
		panic(err)
	}
	return strings.ReplaceAll(string(b), "[]", "null")
}

// checkResolved checks what Resolve returns for the text of a function f.
func checkResolved(t *testing.T, s string, want api.Func) {
	t.Helper()
	got, at, e := Resolve(parsed(t, s), "f")
	if e != api.OK || at != 0 || dump(got) != dump(want) {
		t.Errorf("Resolve of %q: %d, %v\ngot  %s\nwant %s", s, at, e, dump(got), dump(want))
	}
}

// checkWrong checks that Resolve returns an error for a function.
func checkWrong(t *testing.T, s, unit string, at int, want api.Errno) {
	t.Helper()
	f, gotAt, e := Resolve(parsed(t, s), unit)
	if e != want || gotAt != at || dump(f) != dump(api.Func{}) {
		t.Errorf("Resolve of %q for %q: %d, %v, %s, want %d, %v", s, unit, gotAt, e, dump(f), at, want)
	}
}

// checkNames checks the cells, arrays and functions that a function refers to,
// each list as words with blanks between.
func checkNames(t *testing.T, f api.Func, cells, arrays, calls string) {
	t.Helper()
	for _, list := range []struct {
		what string
		got  []string
		want string
	}{{"Cells", Cells(f), cells}, {"Arrays", Arrays(f), arrays}, {"Calls", Calls(f), calls}} {
		if !slices.Equal(list.got, strings.Fields(list.want)) {
			t.Errorf("%s of %s: %q, want %q", list.what, dump(f), list.got, list.want)
		}
	}
}

func val(name string) *api.Expr { return &api.Expr{Kind: api.EVar, Name: name} }

// sum is an expression of the sum of two variables.
func sum(a, b string) *api.Expr { return &api.Expr{Kind: api.EAdd, A: val(a), B: val(b)} }

func isNull(name string) *api.Cond { return &api.Cond{Kind: api.CNull, Name: name} }
