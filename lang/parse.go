package lang

import (
	"strconv"

	"sleuth/api"
)

// Parse returns the program with a text: P1.5.
func Parse(text string) (p api.Program, at int, e api.Errno) {
	if len(text) > api.MaxText {
		return api.Program{}, 0, api.ErrLimit
	}
	defer func() {
		if wrong, ok := recover().(misfit); ok {
			p, at, e = api.Program{}, wrong.at, api.ErrForm
		}
	}()
	r := reader{words: split(text)}
	p = r.program()
	if e := Shape(p); e != api.OK {
		return api.Program{}, 0, e
	}
	return p, 0, api.OK
}

// reader reads a program word by word. Each of its methods panics with a misfit at the first word with which no text goes on.
type reader struct {
	words []word // the last one is the end
	next  int
}

func (r *reader) fail() { panic(misfit{r.words[r.next].at}) }

// see reports whether the next word is a certain keyword or mark.
func (r *reader) see(text string) bool {
	w := r.words[r.next]
	return w.kind == aMark && w.text == text
}

// accept passes over the next word if it is a certain keyword or mark.
func (r *reader) accept(text string) bool {
	if !r.see(text) {
		return false
	}
	r.next++
	return true
}

func (r *reader) expect(text string) {
	if !r.accept(text) {
		r.fail()
	}
}

func (r *reader) name() string {
	w := r.words[r.next]
	if w.kind != aName {
		r.fail()
	}
	r.next++
	return w.text
}

func (r *reader) program() api.Program {
	var p api.Program
	for r.words[r.next].kind != theEnd {
		r.expect("fun")
		name := r.name()
		params := r.params()
		p.Funcs = append(p.Funcs, api.Func{Name: name, Params: params, Body: r.block()})
	}
	return p
}

func (r *reader) params() []string {
	var names []string
	r.expect("(")
	if r.accept(")") {
		return nil
	}
	names = append(names, r.name())
	for r.accept(",") {
		names = append(names, r.name())
	}
	r.expect(")")
	return names
}

func (r *reader) block() []api.Node {
	var body []api.Node
	r.expect("{")
	for !r.accept("}") {
		body = append(body, r.statement())
	}
	return body
}

func (r *reader) statement() api.Node {
	switch {
	case r.accept("let"):
		name := r.name()
		r.expect("=")
		return r.simple(api.KiLet, name)
	case r.accept("if"):
		n := api.Node{Kind: api.KiIf, Subs: r.one(), Body: r.block()}
		if r.accept("else") {
			n.Else = r.block()
		}
		return n
	case r.accept("while"):
		return api.Node{Kind: api.KiWhile, Subs: r.one(), Body: r.block()}
	case r.accept("try"):
		n := api.Node{Kind: api.KiTry, Body: r.block()}
		r.expect("catch")
		n.Text = r.name()
		n.Else = r.block()
		return n
	}
	if k := begunBy(r.words[r.next].text); k != api.KiNone {
		r.next++
		return r.simple(k, "")
	}
	return r.effect()
}

// begunBy returns the kind of the statements that consist of a keyword and an expression.
func begunBy(keyword string) api.Kind {
	switch keyword {
	case "return":
		return api.KiReturn
	case "throw":
		return api.KiThrow
	case "join":
		return api.KiJoin
	case "lock":
		return api.KiLock
	case "unlock":
		return api.KiUnlock
	case "print":
		return api.KiPrint
	case "assert":
		return api.KiAssert
	}
	return api.KiNone
}

// simple reads the expression at the end of a statement.
func (r *reader) simple(k api.Kind, text string) api.Node {
	n := api.Node{Kind: k, Text: text, Subs: r.one()}
	r.expect(";")
	return n
}

func (r *reader) one() []api.Node { return []api.Node{*r.expr()} }

// effect reads a KiSet, a KiStore or a KiDo: which one is known only behind its first expression.
func (r *reader) effect() api.Node {
	first := r.expr()
	if r.see("=") && !r.behind(")") {
		switch first.Kind {
		case api.KiName:
			r.next++
			return r.simple(api.KiSet, first.Text)
		case api.KiLoad:
			r.next++
			value := r.expr()
			r.expect(";")
			return api.Node{Kind: api.KiStore, Subs: []api.Node{first.Subs[0], first.Subs[1], *value}}
		}
	}
	r.expect(";")
	return asStatement(*first)
}

// behind reports whether the last word was a certain one. A name or load that ends with ")" stood in parentheses, which leave nothing in the tree.
func (r *reader) behind(text string) bool { return r.words[r.next-1].text == text }

const (
	comparison = 3 // the level of the operators of which an expression takes only one
	tightest   = 5
)

// level returns how tightly an operator binds, 0 if the word is none.
func level(operator string) int {
	switch operator {
	case "|":
		return 1
	case "&":
		return 2
	case "==", "!=", "<", "<=", ">", ">=":
		return comparison
	case "+", "-":
		return 4
	case "*", "/", "%":
		return tightest
	}
	return 0
}

// The methods that read expressions return pointers: a text may nest their calls as deeply as it has bytes, and results that are no copies of nodes keep the stack small.

func (r *reader) expr() *api.Node { return r.binary(1) }

// binary reads operands between operators of at least a level.
func (r *reader) binary(least int) *api.Node {
	left := r.unary()
	most := tightest
	for {
		operator := r.words[r.next].text
		found := level(operator)
		if found < least || found > most {
			return left
		}
		r.next++
		right := r.binary(found + 1)
		left = &api.Node{Kind: api.KiBinary, Text: operator, Subs: []api.Node{*left, *right}}
		most = found
		if found == comparison {
			most--
		}
	}
}

func (r *reader) unary() *api.Node {
	sign := r.words[r.next].text
	if !isSign(sign) {
		return r.postfix()
	}
	r.next++
	return &api.Node{Kind: api.KiUnary, Text: sign, Subs: []api.Node{*r.unary()}}
}

func (r *reader) postfix() *api.Node {
	n := r.atom()
	for {
		switch {
		case r.accept("["):
			n = &api.Node{Kind: api.KiLoad, Subs: []api.Node{*n, *r.expr()}}
			r.expect("]")
		case r.accept("."):
			n = &api.Node{Kind: api.KiApply, Subs: r.args(*n)}
		default:
			return n
		}
	}
}

func (r *reader) atom() *api.Node {
	if r.accept("(") {
		n := r.expr()
		r.expect(")")
		return n
	}
	switch w := r.words[r.next]; w.kind {
	case aNumber:
		r.next++
		n, _ := strconv.ParseInt(w.text, 10, 64)
		return &api.Node{Kind: api.KiNum, Num: n}
	case aName:
		r.next++
		if r.see("(") {
			return &api.Node{Kind: api.KiCall, Text: w.text, Subs: r.args()}
		}
		return &api.Node{Kind: api.KiName, Text: w.text}
	}
	return r.begun()
}

// begun reads an atom that begins with a keyword.
func (r *reader) begun() *api.Node {
	switch {
	case r.accept("spawn"):
		name := r.name()
		return &api.Node{Kind: api.KiSpawn, Text: name, Subs: r.args()}
	case r.accept("new"):
		return r.enclosed(api.KiNew)
	case r.accept("len"):
		return r.enclosed(api.KiLen)
	case r.accept("fn"):
		params := r.params()
		return &api.Node{Kind: api.KiFn, Params: params, Body: r.block()}
	case r.accept("input"):
		return &api.Node{Kind: api.KiInput}
	}
	r.expect("clock")
	return &api.Node{Kind: api.KiClock}
}

func (r *reader) enclosed(k api.Kind) *api.Node {
	r.expect("(")
	n := &api.Node{Kind: k, Subs: r.one()}
	r.expect(")")
	return n
}

// args reads arguments; it returns them behind those nodes that are there already.
func (r *reader) args(ahead ...api.Node) []api.Node {
	list := ahead
	r.expect("(")
	if r.accept(")") {
		return list
	}
	list = append(list, *r.expr())
	for r.accept(",") {
		list = append(list, *r.expr())
	}
	r.expect(")")
	return list
}
