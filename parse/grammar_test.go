package parse

import (
	"strings"

	"augur/api"
)

// grammarOfFunctions is the chapter's syntax, a rule a line: what begins with a
// capital letter is derived, name and number stand for any, length for a number
// but 0, and all else for itself. Start is what begins a comparison: no parenthesis, since that begins a
// condition.
const grammarOfFunctions = `
Whole = fn name ( Params ) { Locals Stmts }
Params =
Params = Some
Some = Param
Some = Some , Param
Param = name
Param = * name
Locals =
Locals = Locals var name ;
Locals = Locals ptr name ;
Stmts =
Stmts = Stmts Stmt
Stmt = name = Value ;
Stmt = name ( Args ) ;
Stmt = name [ Sum ] = Sum ;
Stmt = * name = Sum ;
Stmt = return Sum ;
Stmt = assert ( Cond ) ;
Stmt = if ( Cond ) Block
Stmt = if ( Cond ) Block else Block
Stmt = while ( Cond ) Block
Value = null
Value = & name
Value = * name
Value = name [ Sum ]
Value = name ( Args )
Value = Sum
Args =
Args = Sums
Sums = Sum
Sums = Sums , Sum
Block = { Stmts }
Cond = And
Cond = Cond || And
And = Not
And = And && Not
Not = ! Not
Not = ( Cond )
Not = name == null
Not = name != null
Not = Start Compare Sum
Compare = ==
Compare = !=
Compare = <
Compare = <=
Compare = >
Compare = >=
Start = StartProd
Start = Start + Prod
Start = Start - Prod
StartProd = StartUn
StartProd = StartProd * Un
StartProd = StartProd / Un
StartProd = StartProd % Un
StartUn = - Un
StartUn = number
StartUn = name
Sum = Prod
Sum = Sum + Prod
Sum = Sum - Prod
Prod = Un
Prod = Prod * Un
Prod = Prod / Un
Prod = Prod % Un
Un = - Un
Un = number
Un = name
Un = ( Sum )
`

const grammarOfGlobals = `
Whole =
Whole = Whole cell name ;
Whole = Whole array name [ length ] ;
`

type rule struct {
	head string
	body []string
}

// grammar tells, token by token, whether a text can still become one that the
// rules derive (as Earley's method does, which knows of no lookahead).
type grammar struct {
	rules  []rule
	byHead map[string][]int // the numbers of the rules
	empty  map[string]bool  // what derives nothing at all
}

func newGrammar(text string) *grammar {
	g := &grammar{byHead: map[string][]int{}, empty: map[string]bool{}}
	for line := range strings.Lines(strings.TrimSpace(text)) {
		words := strings.Fields(line)
		g.byHead[words[0]] = append(g.byHead[words[0]], len(g.rules))
		g.rules = append(g.rules, rule{words[0], words[2:]})
		if len(words) == 2 {
			g.empty[words[0]] = true
		}
	}
	return g
}

// item is a rule of which done parts were found, from the token on with the
// number from.
type item struct{ rule, done, from int }

// row holds the items at one place of a text.
type row struct {
	items []item
	has   map[item]bool
}

func (r *row) add(i item) {
	if !r.has[i] {
		r.has[i] = true
		r.items = append(r.items, i)
	}
}

// begin returns the rows of an empty text.
func (g *grammar) begin() []*row {
	first := &row{has: map[item]bool{}}
	g.predict(first, "Whole", 0)
	rows := []*row{first}
	g.close(rows)
	return rows
}

// next returns the rows of a text with one more token, or nil if it does not
// fit.
func (g *grammar) next(rows []*row, token string) []*row {
	r := &row{has: map[item]bool{}}
	for _, i := range rows[len(rows)-1].items {
		body := g.rules[i.rule].body
		if i.done < len(body) && matches(body[i.done], token) {
			r.add(item{i.rule, i.done + 1, i.from})
		}
	}
	if len(r.items) == 0 {
		return nil
	}
	rows = append(rows[:len(rows):len(rows)], r)
	g.close(rows)
	return rows
}

// close adds to the last row what its items lead to.
func (g *grammar) close(rows []*row) {
	last := rows[len(rows)-1]
	for k := 0; k < len(last.items); k++ {
		i := last.items[k]
		r := g.rules[i.rule]
		if i.done < len(r.body) {
			part := r.body[i.done]
			g.predict(last, part, len(rows)-1)
			if g.empty[part] {
				last.add(item{i.rule, i.done + 1, i.from})
			}
			continue
		}
		for _, j := range rows[i.from].items {
			body := g.rules[j.rule].body
			if j.done < len(body) && body[j.done] == r.head {
				last.add(item{j.rule, j.done + 1, j.from})
			}
		}
	}
}

func (g *grammar) predict(r *row, head string, at int) {
	for _, n := range g.byHead[head] {
		r.add(item{n, 0, at})
	}
}

// whole tells whether the text is derived.
func (g *grammar) whole(rows []*row) bool {
	for _, i := range rows[len(rows)-1].items {
		r := g.rules[i.rule]
		if r.head == "Whole" && i.done == len(r.body) && i.from == 0 {
			return true
		}
	}
	return false
}

// matches tells whether a token is what a rule asks for. Nothing derived has the
// text of a token.
func matches(part, token string) bool {
	switch part {
	case "name":
		return isWord(token)
	case "number":
		return isNumber(token)
	case "length":
		return isNumber(token) && token != "0"
	}
	return part == token
}

func isWord(token string) bool {
	c := token[0] | 0x20
	return ('a' <= c && c <= 'z' || token[0] == '_') && !strings.Contains(" "+keywords+" ", " "+token+" ")
}

func isNumber(token string) bool {
	return '0' <= token[0] && token[0] <= '9'
}

// firstWrong returns the number of the first token that does not fit (of the end
// if it does not), or -1.
func (g *grammar) firstWrong(tokens []string) int {
	rows := g.begin()
	for i, token := range tokens {
		if rows = g.next(rows, token); rows == nil {
			return i
		}
	}
	if !g.whole(rows) {
		return len(tokens)
	}
	return -1
}

// meter finds where a function has too much of something. It is given tokens
// that fit, and looks at each with the one before it.
type meter struct {
	open                  []string // what is open: ( { ! -, and c of a call, if, while, assert
	params, locals, stmts int
	inBody                bool
}

// firstOver returns the number of the first token at which a limit is passed, or
// -1.
func firstOver(tokens []string) (int, api.Errno) {
	m := &meter{}
	before := "fn"
	for i, token := range tokens {
		if e := m.over(before, token); e != api.OK {
			return i, e
		}
		before = token
	}
	return -1, api.OK
}

func (m *meter) over(before, token string) api.Errno {
	m.count(before, token)
	m.nest(before, token)
	depth := 0
	for _, o := range m.open {
		if o != "c" {
			depth++
		}
	}
	switch {
	case depth > 40:
		return api.ErrDeep
	case m.params > 6 || m.locals > 20 || m.stmts > 200:
		return api.ErrLong
	}
	return api.OK
}

// count counts parameters, locals and statements.
func (m *meter) count(before, token string) {
	switch {
	case token == "{" && !m.inBody:
		m.inBody = true
	case !m.inBody:
		if isWord(token) && before != "fn" {
			m.params++
		}
	case before == "var" || before == "ptr":
		m.locals++
	case before == "{" || before == "}" || before == ";":
		if token != "}" && token != "else" && token != "var" && token != "ptr" {
			m.stmts++
		}
	}
}

// nest keeps what is open.
func (m *meter) nest(before, token string) {
	operandBefore := isWord(before) || isNumber(before) || before == ")"
	switch {
	case token == "(" && (isWord(before) || before == "if" || before == "while" || before == "assert"):
		m.open = append(m.open, "c")
	case token == "(" || token == "{" || token == "!" || token == "-" && !operandBefore:
		m.open = append(m.open, token)
	case isWord(token) || isNumber(token):
		m.drop("-")
	case token == "&&" || token == "||":
		m.drop("!")
	case token == ")" || token == "}":
		m.drop("!")
		m.open = m.open[:len(m.open)-1]
		m.drop("-")
	}
}

// drop takes all of the last ones off that are such.
func (m *meter) drop(what string) {
	for len(m.open) > 0 && m.open[len(m.open)-1] == what {
		m.open = m.open[:len(m.open)-1]
	}
}
