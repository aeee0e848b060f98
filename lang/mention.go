package lang

import (
	"iter"

	"sleuth/api"
)

// role tells what a text does at a mention.
type role int

const (
	begins   role = iota // a statement
	declares             // a name
	uses                 // a name, as KiName or as the Text of a KiSet
	calls                // a function, by KiCall or KiSpawn
)

// mention is a place of a text that matters for the meaning of names.
type mention struct {
	role    role
	name    string
	args    int // of calls
	closure int // the closure in which it stands, counted from 1 on, or 0
}

// mentions tells the mentions of a function, or of a list of nodes of a well formed program, in the order of the text.
func mentions(params []string, body []api.Node) iter.Seq[mention] {
	return func(yield func(mention) bool) {
		t := teller{yield: yield}
		if t.declare(params, 0) {
			t.list(body, 0)
		}
	}
}

// teller is how far mentions has come. Its methods return false once no mention is wanted any more.
type teller struct {
	yield    func(mention) bool
	closures int
}

func (t *teller) declare(names []string, closure int) bool {
	for _, s := range names {
		if !t.yield(mention{role: declares, name: s, closure: closure}) {
			return false
		}
	}
	return true
}

func (t *teller) list(l []api.Node, closure int) bool {
	for _, n := range l {
		if !t.node(n, closure) {
			return false
		}
	}
	return true
}

func (t *teller) node(n api.Node, closure int) bool {
	if isStatement(n.Kind) && !t.yield(mention{role: begins, closure: closure}) {
		return false
	}
	switch n.Kind {
	case api.KiName:
		return t.yield(mention{role: uses, name: n.Text, closure: closure})
	case api.KiCall, api.KiSpawn:
		return t.yield(mention{role: calls, name: n.Text, args: len(n.Subs), closure: closure}) && t.list(n.Subs, closure)
	case api.KiFn:
		t.closures++
		own := t.closures
		return t.declare(n.Params, own) && t.list(n.Body, own)
	case api.KiLet:
		return t.list(n.Subs, closure) && t.yield(mention{role: declares, name: n.Text, closure: closure})
	case api.KiSet:
		return t.list(n.Subs, closure) && t.yield(mention{role: uses, name: n.Text, closure: closure})
	case api.KiTry:
		return t.list(n.Body, closure) && t.yield(mention{role: declares, name: n.Text, closure: closure}) && t.list(n.Else, closure)
	}
	return t.list(n.Subs, closure) && t.list(n.Body, closure) && t.list(n.Else, closure)
}
