package lang

import (
	"strconv"
	"strings"

	"sleuth/api"
)

// Print returns the written form of a program: P1.6.
func Print(p api.Program) (string, api.Errno) {
	if e := Shape(p); e != api.OK {
		return "", e
	}
	var w writer
	for _, f := range p.Funcs {
		w.put("fun ", f.Name, "(", strings.Join(f.Params, ", "), ")")
		w.block(f.Body)
		w.put("\n")
	}
	if w.Len() > api.MaxText {
		return "", api.ErrLimit
	}
	return w.String(), api.OK
}

// Expr returns the written form of an expression: P1.6.
func Expr(n api.Node) (string, api.Errno) {
	if !isExpression(n.Kind) || Shape(alone(asStatement(n))) != api.OK {
		return "", api.ErrArg
	}
	var w writer
	w.expr(n)
	return w.String(), api.OK
}

// Digest returns the FNV-1a sum of a program's written form: P1.12.
func Digest(p api.Program) (uint64, api.Errno) {
	text, e := Print(p)
	if e != api.OK {
		return 0, e
	}
	sum := uint64(14695981039346656037)
	for i := range len(text) {
		sum = (sum ^ uint64(text[i])) * 1099511628211
	}
	return sum, api.OK
}

// writer writes the written form of well formed nodes.
type writer struct {
	strings.Builder
	level int // of the line on which it is
}

func (w *writer) put(texts ...string) {
	for _, s := range texts {
		w.WriteString(s)
	}
}

// indent begins a line.
func (w *writer) indent() { w.put(strings.Repeat("  ", w.level)) }

// block writes statements between braces, and stays on the line of the last one.
func (w *writer) block(body []api.Node) {
	w.put(" {\n")
	w.level++
	for _, n := range body {
		w.indent()
		w.statement(n)
		w.put("\n")
	}
	w.level--
	w.indent()
	w.put("}")
}

func (w *writer) statement(n api.Node) {
	switch n.Kind {
	case api.KiLet:
		w.put("let ", n.Text, " = ")
	case api.KiSet:
		w.put(n.Text, " = ")
	case api.KiStore:
		w.load(n)
		w.put(" = ")
	case api.KiIf, api.KiWhile, api.KiTry:
		w.compound(n)
		return
	default:
		w.put(leadOf(n.Kind))
	}
	w.expr(n.Subs[len(n.Subs)-1])
	w.put(";")
}

// leadOf returns what stands ahead of the expression of a statement that has a keyword, or nothing, there.
func leadOf(k api.Kind) string {
	switch k {
	case api.KiReturn:
		return "return "
	case api.KiThrow:
		return "throw "
	case api.KiJoin:
		return "join "
	case api.KiLock:
		return "lock "
	case api.KiUnlock:
		return "unlock "
	case api.KiPrint:
		return "print "
	case api.KiAssert:
		return "assert "
	}
	return ""
}

// compound writes a statement that has statements in it.
func (w *writer) compound(n api.Node) {
	switch n.Kind {
	case api.KiIf:
		w.put("if ")
		w.expr(n.Subs[0])
		w.block(n.Body)
		if len(n.Else) > 0 {
			w.put(" else")
			w.block(n.Else)
		}
	case api.KiWhile:
		w.put("while ")
		w.expr(n.Subs[0])
		w.block(n.Body)
	case api.KiTry:
		w.put("try")
		w.block(n.Body)
		w.put(" catch ", n.Text)
		w.block(n.Else)
	}
}

func (w *writer) expr(n api.Node) {
	switch n.Kind {
	case api.KiNum:
		w.put(strconv.FormatInt(n.Num, 10))
	case api.KiName:
		w.put(n.Text)
	case api.KiUnary:
		w.put(n.Text)
		w.operand(n.Subs[0], api.KiBinary)
	case api.KiBinary:
		w.operand(n.Subs[0], api.KiBinary)
		w.put(" ", n.Text, " ")
		w.operand(n.Subs[1], api.KiBinary)
	case api.KiCall:
		w.args(n.Text, n.Subs)
	case api.KiSpawn:
		w.args("spawn "+n.Text, n.Subs)
	case api.KiApply:
		w.operand(n.Subs[0], api.KiUnary, api.KiBinary)
		w.args(".", n.Subs[1:])
	case api.KiNew:
		w.args("new", n.Subs)
	case api.KiLen:
		w.args("len", n.Subs)
	case api.KiLoad:
		w.load(n)
	case api.KiFn:
		w.put("fn (", strings.Join(n.Params, ", "), ")")
		w.block(n.Body)
	case api.KiInput:
		w.put("input")
	case api.KiClock:
		w.put("clock")
	}
}

// load writes the object and the index of a KiLoad or KiStore.
func (w *writer) load(n api.Node) {
	w.operand(n.Subs[0], api.KiUnary, api.KiBinary)
	w.put("[")
	w.expr(n.Subs[1])
	w.put("]")
}

func (w *writer) args(ahead string, list []api.Node) {
	w.put(ahead, "(")
	for i, n := range list {
		if i > 0 {
			w.put(", ")
		}
		w.expr(n)
	}
	w.put(")")
}

// operand writes an expression, in parentheses if it is of one of some kinds.
func (w *writer) operand(n api.Node, loose ...api.Kind) {
	for _, k := range loose {
		if n.Kind == k {
			w.args("", []api.Node{n})
			return
		}
	}
	w.expr(n)
}
