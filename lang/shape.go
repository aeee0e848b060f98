package lang

import (
	"iter"
	"slices"

	"sleuth/api"
)

// part tells which fields belong to a kind of nodes, but for the Num of KiNum and the Params of KiFn.
type part struct {
	text        func(string) bool // whether a text may be its Text
	least, most int               // how many Subs
	body, other bool              // whether it has a Body, and an Else
}

type partsOf map[api.Kind]part

func parts() partsOf {
	one := part{text: isEmpty, least: 1, most: 1}
	call := part{text: Name, most: api.MaxParams}
	return partsOf{
		api.KiNum:    {text: isEmpty},
		api.KiName:   {text: Name},
		api.KiUnary:  {text: isSign, least: 1, most: 1},
		api.KiBinary: {text: isOperator, least: 2, most: 2},
		api.KiCall:   call,
		api.KiApply:  {text: isEmpty, least: 1, most: 1 + api.MaxParams},
		api.KiNew:    one,
		api.KiLoad:   {text: isEmpty, least: 2, most: 2},
		api.KiLen:    one,
		api.KiFn:     {text: isEmpty, body: true},
		api.KiInput:  {text: isEmpty},
		api.KiClock:  {text: isEmpty},
		api.KiSpawn:  call,
		api.KiLet:    {text: Name, least: 1, most: 1},
		api.KiSet:    {text: Name, least: 1, most: 1},
		api.KiStore:  {text: isEmpty, least: 3, most: 3},
		api.KiIf:     {text: isEmpty, least: 1, most: 1, body: true, other: true},
		api.KiWhile:  {text: isEmpty, least: 1, most: 1, body: true},
		api.KiReturn: one,
		api.KiThrow:  one,
		api.KiTry:    {text: Name, body: true, other: true},
		api.KiJoin:   one,
		api.KiLock:   one,
		api.KiUnlock: one,
		api.KiPrint:  one,
		api.KiAssert: one,
		api.KiDo:     one,
	}
}

// nodes tells all nodes of a program with their depths, in the order of the text, whatever their kinds are.
func nodes(p api.Program) iter.Seq2[int, api.Node] {
	return func(yield func(int, api.Node) bool) {
		for _, f := range p.Funcs {
			if !tellNodes(f.Body, 1, yield) {
				return
			}
		}
	}
}

func tellNodes(l []api.Node, depth int, yield func(int, api.Node) bool) bool {
	for _, n := range l {
		if !yield(depth, n) {
			return false
		}
		if !tellNodes(n.Subs, depth+1, yield) || !tellNodes(n.Body, depth+1, yield) || !tellNodes(n.Else, depth+1, yield) {
			return false
		}
	}
	return true
}

// Nodes returns how many nodes a program has, and the greatest depth: P1.2.
func Nodes(p api.Program) (count, depth int) {
	for d := range nodes(p) {
		count++
		depth = max(depth, d)
	}
	return count, depth
}

// Shape returns the first error of a program's form: P1.2.
func Shape(p api.Program) api.Errno {
	if isTooLarge(p) {
		return api.ErrLimit
	}
	kinds := parts()
	for _, f := range p.Funcs {
		if !Name(f.Name) || !areParams(f.Params) || !kinds.haveStatements(f.Body, false) {
			return api.ErrArg
		}
	}
	return api.OK
}

// isTooLarge stops at the first node above a limit, so that the nodes behind it cost nothing.
func isTooLarge(p api.Program) bool {
	if len(p.Funcs) > api.MaxFuncs {
		return true
	}
	count := 0
	for depth := range nodes(p) {
		count++
		if count > api.MaxNodes || depth > api.MaxDepth {
			return true
		}
	}
	return false
}

func areParams(names []string) bool {
	return len(names) <= api.MaxParams && !slices.ContainsFunc(names, func(s string) bool { return !Name(s) })
}

func (k partsOf) haveStatements(l []api.Node, closure bool) bool {
	for _, n := range l {
		if !isStatement(n.Kind) || !k.have(n, closure) {
			return false
		}
	}
	return true
}

func (k partsOf) haveExpressions(l []api.Node, closure bool) bool {
	for _, n := range l {
		if !isExpression(n.Kind) || !k.have(n, closure) {
			return false
		}
	}
	return true
}

// have reports whether a node, with all that is in it, is as the table says; closure tells whether it stands inside one.
func (k partsOf) have(n api.Node, closure bool) bool {
	if !k.fit(n) || closure && n.Kind == api.KiFn {
		return false
	}
	closure = closure || n.Kind == api.KiFn
	return k.haveExpressions(n.Subs, closure) && k.haveStatements(n.Body, closure) && k.haveStatements(n.Else, closure)
}

// fit reports whether the fields of a node, without what is in them, are those of its kind.
func (k partsOf) fit(n api.Node) bool {
	own, listed := k[n.Kind]
	return listed && own.text(n.Text) &&
		own.least <= len(n.Subs) && len(n.Subs) <= own.most &&
		(own.body || len(n.Body) == 0) && (own.other || len(n.Else) == 0) &&
		(n.Num == 0 || n.Kind == api.KiNum && n.Num > 0) &&
		(len(n.Params) == 0 || n.Kind == api.KiFn && areParams(n.Params))
}
