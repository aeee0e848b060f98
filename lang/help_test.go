package lang_test

import (
	"slices"
	"testing"

	"sleuth/api"
	"sleuth/lang"
)

// parsed returns the program with a text.
func parsed(t *testing.T, text string) api.Program {
	t.Helper()
	p, at, e := lang.Parse(text)
	if e != api.OK || at != 0 {
		t.Fatalf("Parse(%q): error %d at %d", text, e, at)
	}
	return p
}

// printed returns the written form of a program.
func printed(t *testing.T, p api.Program) string {
	t.Helper()
	s, e := lang.Print(p)
	if e != api.OK {
		t.Fatalf("Print: error %d of %v", e, p)
	}
	return s
}

func num(n int64) api.Node { return api.Node{Kind: api.KiNum, Num: n} }

func name(s string) api.Node { return api.Node{Kind: api.KiName, Text: s} }

func node(k api.Kind, text string, subs ...api.Node) api.Node {
	return api.Node{Kind: k, Text: text, Subs: subs}
}

func do(n api.Node) api.Node { return node(api.KiDo, "", n) }

func fn(params []string, body ...api.Node) api.Node {
	return api.Node{Kind: api.KiFn, Params: params, Body: body}
}

// program returns the program of one function main with these statements.
func program(body ...api.Node) api.Program {
	return api.Program{Funcs: []api.Func{{Name: "main", Body: body}}}
}

// nested returns an expression of so many nodes, one inside the other.
func nested(depth int) api.Node {
	n := num(1)
	for range depth - 1 {
		n = node(api.KiUnary, "-", n)
	}
	return n
}

// many returns so many statements of two nodes each.
func many(count int) []api.Node {
	var l []api.Node
	for range count {
		l = append(l, do(num(1)))
	}
	return l
}

// clone returns a program that shares no memory with another one, and keeps nil lists nil.
func clone(p api.Program) api.Program {
	q := api.Program{Funcs: slices.Clone(p.Funcs)}
	for i, f := range q.Funcs {
		q.Funcs[i].Params = slices.Clone(f.Params)
		q.Funcs[i].Body = cloneNodes(f.Body)
	}
	return q
}

func cloneNodes(l []api.Node) []api.Node {
	l = slices.Clone(l)
	for i, n := range l {
		l[i].Params = slices.Clone(n.Params)
		l[i].Subs = cloneNodes(n.Subs)
		l[i].Body = cloneNodes(n.Body)
		l[i].Else = cloneNodes(n.Else)
	}
	return l
}

// spoil overwrites all memory that the lists of a program have, what lies behind their ends included.
func spoil(p api.Program) {
	funcs := p.Funcs[:cap(p.Funcs)]
	for i, f := range funcs {
		spoilNames(f.Params)
		spoilNodes(f.Body)
		funcs[i] = api.Func{Name: "spoilt"}
	}
}

func spoilNames(l []string) {
	l = l[:cap(l)]
	for i := range l {
		l[i] = "spoilt"
	}
}

func spoilNodes(l []api.Node) {
	l = l[:cap(l)]
	for i, n := range l {
		spoilNames(n.Params)
		spoilNodes(n.Subs)
		spoilNodes(n.Body)
		spoilNodes(n.Else)
		l[i] = api.Node{Kind: 200, Text: "spoilt"}
	}
}

// sharesNone reports whether no two lists of a program have memory in common, what lies behind their ends included.
func sharesNone(p api.Program) bool {
	names, nodes := map[*string]bool{}, map[*api.Node]bool{}
	return !slices.ContainsFunc(p.Funcs, func(f api.Func) bool {
		return !allNew(names, f.Params) || !allNodesNew(names, nodes, f.Body)
	})
}

func allNew[T any](seen map[*T]bool, l []T) bool {
	l = l[:cap(l)]
	for i := range l {
		if seen[&l[i]] {
			return false
		}
		seen[&l[i]] = true
	}
	return true
}

func allNodesNew(names map[*string]bool, nodes map[*api.Node]bool, l []api.Node) bool {
	if !allNew(nodes, l) {
		return false
	}
	return !slices.ContainsFunc(l, func(n api.Node) bool {
		return !allNew(names, n.Params) || !allNodesNew(names, nodes, n.Subs) ||
			!allNodesNew(names, nodes, n.Body) || !allNodesNew(names, nodes, n.Else)
	})
}
