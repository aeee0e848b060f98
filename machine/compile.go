package machine

import (
	"slices"

	"sleuth/api"
	"sleuth/lang"
)

// Compile returns the code of a program: P2.1.
func Compile(p api.Program) (api.Code, api.Errno) {
	if e := lang.Check(p); e != api.OK {
		return api.Code{}, e
	}
	return compiled(p), api.OK
}

// compiled returns the code of a correct program.
func compiled(p api.Program) api.Code {
	c := compiler{functions: map[string]int{}}
	for i, f := range p.Funcs {
		c.functions[f.Name] = i
	}
	var chunks []api.Chunk
	for _, f := range p.Funcs {
		chunks = append(chunks, c.chunk(f.Name, f.Params, nil, f.Body))
	}
	return api.Code{Chunks: append(chunks, c.closures...), Main: c.functions["main"]}
}

// compiler is how far the compilation of a program has come. It goes through the text in its order, by which statements and closures are numbered.
type compiler struct {
	functions map[string]int // the chunks of the functions, by their names
	closures  []api.Chunk
	next      int // the number of the next statement
}

// chunk compiles a function, or a closure with the names that it holds.
func (c *compiler) chunk(name string, params, held []string, body []api.Node) api.Chunk {
	w := writer{compiler: c, registers: map[string]int{}, line: -1}
	for i, s := range slices.Concat(params, held, declared(body)) {
		w.registers[s] = i
	}
	w.list(body)
	w.put(api.Instr{Op: api.OpConst, D: w.temporary()})
	w.put(api.Instr{Op: api.OpReturn, D: w.temporary()})
	return api.Chunk{Name: name, Params: len(params), Held: len(held), Regs: registers(w.code), Code: w.code}
}

// declared returns the names that statements declare outside of the closures in them, in the order of the text.
func declared(body []api.Node) []string {
	var names []string
	for _, n := range body {
		names = append(names, declared(n.Body)...)
		if n.Kind == api.KiLet || n.Kind == api.KiTry {
			names = append(names, n.Text)
		}
		names = append(names, declared(n.Else)...)
	}
	return names
}

// registers returns how many registers a chunk has. Only D needs a look: what else an instruction uses is the D of one ahead of it, or a named register, and the last instructions use the one behind these.
func registers(code []api.Instr) int {
	count := 0
	for _, i := range code {
		count = max(count, i.D+1)
	}
	return count
}

// writer writes the code of a chunk.
type writer struct {
	*compiler
	registers map[string]int // the named ones
	code      []api.Instr
	line      int // the statement for whose own code it writes, or -1
}

// temporary returns the first register behind the named ones.
func (w *writer) temporary() int { return len(w.registers) }

// put appends an instruction, and returns its address.
func (w *writer) put(i api.Instr) int {
	i.Line = w.line
	w.code = append(w.code, i)
	return len(w.code) - 1
}

// landHere makes an instruction that was put lead to the present address.
func (w *writer) landHere(address int) { w.code[address].A = len(w.code) }

func (w *writer) list(body []api.Node) {
	around := w.line
	for _, n := range body {
		w.line = w.next
		w.next++
		w.statement(n)
	}
	w.line = around
}

func (w *writer) statement(n api.Node) {
	t, begin := w.temporary(), len(w.code)
	w.expressions(n.Subs, t)
	switch n.Kind {
	case api.KiLet, api.KiSet:
		w.put(api.Instr{Op: api.OpMove, D: w.registers[n.Text], A: t})
	case api.KiIf:
		w.choice(n)
	case api.KiWhile:
		over := w.put(api.Instr{Op: api.OpBranch, D: t})
		w.list(n.Body)
		w.put(api.Instr{Op: api.OpJump, A: begin})
		w.landHere(over)
	case api.KiTry:
		w.guarded(n)
	case api.KiDo:
	default:
		w.put(api.Instr{Op: ending(n.Kind), D: t})
	}
}

// choice writes what a KiIf does behind its condition.
func (w *writer) choice(n api.Node) {
	over := w.put(api.Instr{Op: api.OpBranch, D: w.temporary()})
	w.list(n.Body)
	if len(n.Else) == 0 {
		w.landHere(over)
		return
	}
	w.otherwise(over, n.Else)
}

func (w *writer) guarded(n api.Node) {
	try := w.put(api.Instr{Op: api.OpTry, B: w.registers[n.Text]})
	w.list(n.Body)
	w.put(api.Instr{Op: api.OpEnd})
	w.otherwise(try, n.Else)
}

// otherwise writes statements to which only an instruction that was put leads.
func (w *writer) otherwise(from int, body []api.Node) {
	pass := w.put(api.Instr{Op: api.OpJump})
	w.landHere(from)
	w.list(body)
	w.landHere(pass)
}

// ending returns the operation that ends the code of a statement, where nothing but the code of its expressions stands ahead of it.
func ending(k api.Kind) api.Op {
	switch k {
	case api.KiStore:
		return api.OpStore
	case api.KiReturn:
		return api.OpReturn
	case api.KiThrow:
		return api.OpThrow
	case api.KiJoin:
		return api.OpJoin
	case api.KiLock:
		return api.OpLock
	case api.KiUnlock:
		return api.OpUnlock
	case api.KiPrint:
		return api.OpPrint
	case api.KiAssert:
		return api.OpAssert
	}
	return api.OpNone
}

// expressions writes the code of expressions into registers that follow one another.
func (w *writer) expressions(l []api.Node, d int) {
	for i, n := range l {
		w.expression(n, d+i)
	}
}

func (w *writer) expression(n api.Node, d int) {
	w.expressions(n.Subs, d)
	i := api.Instr{D: d}
	switch n.Kind {
	case api.KiNum:
		i.Op, i.K = api.OpConst, n.Num
	case api.KiName:
		i.Op, i.A = api.OpMove, w.registers[n.Text]
	case api.KiUnary:
		i.Op, i.A = api.OpUnary, negate
		if n.Text == "!" {
			i.A = invert
		}
	case api.KiBinary:
		i.Op, i.A = api.OpBinary, lang.Operator(n.Text)
	case api.KiCall:
		i.Op, i.A, i.B = api.OpCall, w.functions[n.Text], len(n.Subs)
	case api.KiSpawn:
		i.Op, i.A, i.B = api.OpSpawn, w.functions[n.Text], len(n.Subs)
	case api.KiApply:
		i.Op, i.B = api.OpApply, len(n.Subs)-1
	case api.KiNew:
		i.Op = api.OpNew
	case api.KiLoad:
		i.Op = api.OpLoad
	case api.KiLen:
		i.Op = api.OpLen
	case api.KiFn:
		i.Op = api.OpClose
		i.A, i.B = w.closure(n, d)
	case api.KiInput:
		i.Op = api.OpInput
	case api.KiClock:
		i.Op = api.OpClock
	}
	w.put(i)
}

// closure writes the moves of what a closure holds, and compiles the closure; it returns its chunk, and how many values it holds.
func (w *writer) closure(n api.Node, d int) (chunk, held int) {
	names := lang.Held(n)
	for i, s := range names {
		w.put(api.Instr{Op: api.OpMove, D: d + i, A: w.registers[s]})
	}
	chunk = len(w.functions) + len(w.closures)
	w.closures = append(w.closures, w.chunk("", n.Params, names, n.Body))
	return chunk, len(names)
}
