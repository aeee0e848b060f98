package slice_test

import (
	"slices"
	"testing"

	"sleuth/api"
	"sleuth/lang"
	"sleuth/machine"
	"sleuth/slice"
)

// model is a program in scope as the tests read the chapter: what its statements do and where they lead is read from the code, where chunks are units and Lines tell whose expressions an instruction is for; definitions are found against the flow; slices grow by trying all statements again and again.
type model struct {
	code      api.Code
	functions int
	kinds     []api.Kind
	function  []int // in which each statement stands
	starts    []int // the least address of each statement
	effects   []slice.Effect
	throwing  []bool   // of each function, and of all closures together
	leads     [2][]way // of each statement, and those by a throw
}

// way is to which statements one leads.
type way map[int]bool

// exit is where a unit is over.
const exit = -1

func modelOf(t *testing.T, p api.Program) *model {
	t.Helper()
	code, e := machine.Compile(p)
	if e != api.OK {
		t.Fatalf("Compile: error %d", e)
	}
	m := &model{code: code, functions: len(p.Funcs), throwing: make([]bool, len(p.Funcs)+1)}
	for n := range lang.Count(p) {
		node, _ := lang.At(p, n)
		spot, _ := lang.Where(p, n)
		effect := slice.Effect{Unit: -1, Parent: spot.Parent, Reads: lang.Reads(node)}
		if node.Kind == api.KiLet || node.Kind == api.KiSet || node.Kind == api.KiTry {
			effect.Sets = node.Text
		}
		m.kinds, m.function, m.starts, m.effects = append(m.kinds, node.Kind), append(m.function, spot.Func), append(m.starts, -1), append(m.effects, effect)
	}
	m.readCode()
	for m.spreadThrows() {
	}
	for n := range m.effects {
		m.effects[n].Throws = m.mayThrow(n)
		m.leads[0] = append(m.leads[0], m.ordinary(n))
		m.leads[1] = append(m.leads[1], m.thrown(n))
	}
	return m
}

// readCode reads from the code what the statements do.
func (m *model) readCode() {
	for chunk, c := range m.code.Chunks {
		for address, i := range c.Code {
			if i.Line < 0 {
				continue
			}
			x := &m.effects[i.Line]
			if x.Unit < 0 {
				x.Unit, m.starts[i.Line] = chunk, address
			}
			switch i.Op {
			case api.OpLoad:
				x.Loads = true
			case api.OpStore:
				x.Stores = true
			case api.OpInput:
				x.Inputs = true
			case api.OpClock:
				x.Clocks = true
			case api.OpApply:
				x.Applies = true
			case api.OpReturn, api.OpThrow:
				x.Jumps = true
			case api.OpCall:
				x.Calls = append(x.Calls, i.A)
				slices.Sort(x.Calls)
				x.Calls = slices.Compact(x.Calls)
			}
		}
	}
}

// spreadThrows marks the unit of each statement that may throw, as far as it is known which do, and reports whether one is new.
func (m *model) spreadThrows() bool {
	isNew := false
	for n, x := range m.effects {
		if unit := min(x.Unit, m.functions); m.mayThrow(n) && !m.throwing[unit] {
			m.throwing[unit] = true
			isNew = true
		}
	}
	return isNew
}

func (m *model) mayThrow(n int) bool {
	return m.kinds[n] == api.KiThrow || m.effects[n].Applies && m.throwing[m.functions] ||
		slices.ContainsFunc(m.effects[n].Calls, func(f int) bool { return m.throwing[f] })
}

// ordinary returns which statements can begin next if a run goes through the code from the beginning of one.
func (m *model) ordinary(n int) way {
	to := way{}
	m.through(m.code.Chunks[m.effects[n].Unit].Code, m.starts[n], to)
	return to
}

// through goes through an instruction, and on until a statement begins or the frame ends.
func (m *model) through(code []api.Instr, at int, to way) {
	switch i := code[at]; i.Op {
	case api.OpThrow:
	case api.OpReturn:
		to[exit] = true
	case api.OpJump:
		m.arrive(code, i.A, to)
	case api.OpBranch:
		m.arrive(code, at+1, to)
		m.arrive(code, i.A, to)
	default:
		m.arrive(code, at+1, to)
	}
}

func (m *model) arrive(code []api.Instr, at int, to way) {
	if line := code[at].Line; line >= 0 && m.starts[line] == at {
		to[line] = true
		return
	}
	m.through(code, at, to)
}

// thrown returns what can begin next if something is thrown in a statement: where the last handler leads that the frame has there.
func (m *model) thrown(n int) way {
	to := way{}
	if !m.effects[n].Throws {
		return to
	}
	code := m.code.Chunks[m.effects[n].Unit].Code
	for at := m.starts[n] - 1; at >= 0; at-- {
		i := code[at]
		if i.Op == api.OpTry && m.starts[n] < i.A-2 { // ahead of its OpEnd
			m.arrive(code, i.A, to)
			return to
		}
	}
	to[exit] = true
	return to
}

// list returns where a statement leads, ascending.
func (w way) list() []int {
	var l []int
	for n := range w {
		l = append(l, n)
	}
	slices.Sort(l)
	return l
}

func (m *model) defines(n int, name string) bool {
	return (m.kinds[n] == api.KiLet || m.kinds[n] == api.KiSet) && m.effects[n].Sets == name
}

// reaching finds the definitions that reach a statement by going back from it.
func (m *model) reaching(n int, name string) []int {
	found, seen, work := way{}, way{n: true}, []int{n}
	back := func(v int) {
		if !seen[v] {
			seen[v] = true
			work = append(work, v)
		}
	}
	for len(work) > 0 {
		to := work[0]
		work = work[1:]
		for v := range m.effects {
			if m.leads[1][v][to] {
				back(v)
			}
			if m.leads[0][v][to] && m.defines(v, name) {
				found[v] = true
			} else if m.leads[0][v][to] {
				back(v)
			}
		}
	}
	return found.list()
}

// declaration returns the statement that declares a name in a function, or -1.
func (m *model) declaration(function int, name string) int {
	for n, x := range m.effects {
		if m.function[n] == function && x.Sets == name && m.kinds[n] != api.KiSet {
			return n
		}
	}
	return -1
}

// all returns the statements of which something holds.
func (m *model) all(holds func(n int, x slice.Effect) bool) []int {
	var l []int
	for n, x := range m.effects {
		if holds(n, x) {
			l = append(l, n)
		}
	}
	return l
}

// waysOut returns the KiReturns of a unit, and its statements that may throw.
func (m *model) waysOut(unit int) []int {
	return m.all(func(n int, x slice.Effect) bool { return x.Unit == unit && (x.Throws || m.kinds[n] == api.KiReturn) })
}

// needs returns what the rules put into a slice for one statement alone.
func (m *model) needs(s int, k slice.Kind) []int {
	x := m.effects[s]
	l := []int{x.Parent} // 1
	for _, name := range x.Reads {
		l = append(l, m.all(func(n int, y slice.Effect) bool { // 2
			return y.Unit == x.Unit && y.Sets == name && (k == slice.Coarse || m.kinds[n] == api.KiTry)
		})...)
		if k == slice.Fine {
			l = append(l, m.reaching(s, name)...)
		}
		l = append(l, m.declaration(m.function[s], name)) // 3
	}
	if x.Sets != "" {
		l = append(l, m.declaration(m.function[s], x.Sets))
	}
	l = append(l, m.all(func(_ int, y slice.Effect) bool { // 4
		return x.Loads && y.Stores || x.Inputs && y.Inputs || x.Clocks && y.Clocks
	})...)
	for unit := range m.code.Chunks { // 5
		if slices.Contains(x.Calls, unit) || x.Applies && unit >= m.functions {
			l = append(l, m.waysOut(unit)...)
		}
	}
	l = append(l, m.waysOut(x.Unit)...)                    // 6
	l = append(l, m.all(func(_ int, y slice.Effect) bool { // 7
		return slices.Contains(y.Calls, x.Unit) || y.Applies && x.Unit >= m.functions
	})...)
	slices.Sort(l)
	return slices.DeleteFunc(slices.Compact(l), func(n int) bool { return n < 0 || n == s })
}

// allNeeds returns the needs of all statements.
func (m *model) allNeeds(k slice.Kind) [][]int {
	var l [][]int
	for n := range m.effects {
		l = append(l, m.needs(n, k))
	}
	return l
}

// modelSlice returns the slice for some statements, if these are the needs of all.
func modelSlice(needs [][]int, of ...int) []int {
	s := way{}
	for _, n := range of {
		s[n] = true
	}
	for count := -1; count < len(s); {
		count = len(s)
		for _, n := range s.list() {
			for _, m := range needs[n] {
				s[m] = true
			}
		}
	}
	return s.list()
}

// modelGroups puts prints together as long as two groups have two whose slices meet.
func modelGroups(needs [][]int, prints []int) [][]int {
	var groups [][]int
	for _, n := range prints {
		groups = append(groups, []int{n})
	}
	meet := func(a, b []int) bool {
		for _, x := range a {
			for _, y := range b {
				if slices.ContainsFunc(modelSlice(needs, x), func(n int) bool { return slices.Contains(modelSlice(needs, y), n) }) {
					return true
				}
			}
		}
		return false
	}
	for i := 0; i < len(groups); i++ {
		for j := i + 1; j < len(groups); j++ {
			if meet(groups[i], groups[j]) {
				groups[i] = slices.Concat(groups[i], groups[j])
				slices.Sort(groups[i])
				groups = slices.Delete(groups, j, j+1)
				j = i
			}
		}
	}
	return groups
}
