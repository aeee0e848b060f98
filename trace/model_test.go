package trace_test

import (
	"maps"
	"slices"
	"testing"

	"sleuth/api"
	"sleuth/lang"
	"sleuth/machine"
	"sleuth/trace"
)

// model is a run as the tests read the chapter: places and values are taken from the states between the steps, regions and sides from the tree, and what follows from the events is found by trying all steps.
type model struct {
	program api.Program
	code    api.Code
	log     api.Log
	states  []api.State
	steps   []modelStep
	names   [][]string // of the named registers of each chunk
	nodes   []api.Node // the statements, and where they stand
	spots   []lang.Spot
}

type modelStep struct {
	api.Event
	instr  api.Instr
	faults bool
	feeds  [][]int // of each write the reads, by their indexes
	caught int     // the frame in which an OpThrow is caught, or -1
	try    int     // the statement that catches it
}

// modelOf returns the model of a log of a program.
func modelOf(t *testing.T, p api.Program, l api.Log) *model {
	t.Helper()
	x, e := machine.New(p, api.Given{Inputs: l.Inputs, Clocks: l.Clocks})
	if e != api.OK {
		t.Fatalf("New: error %d", e)
	}
	m := &model{program: p, code: x.Code(), log: l, states: []api.State{x.State()}, names: namesOf(p)}
	for n := range lang.Count(p) {
		node, _ := lang.At(p, n)
		spot, _ := lang.Where(p, n)
		m.nodes, m.spots = append(m.nodes, node), append(m.spots, spot)
	}
	for _, pick := range l.Picks {
		for range pick.Count {
			if e := x.StepOf(pick.Thread); e != api.OK {
				t.Fatalf("StepOf: error %d", e)
			}
			m.states = append(m.states, x.State())
			m.add(pick.Thread)
		}
	}
	return m
}

// namesOf returns the names of the named registers of each chunk.
func namesOf(p api.Program) [][]string {
	var names, closures [][]string
	for _, f := range p.Funcs {
		names = append(names, slices.Concat(f.Params, declaredIn(f.Body)))
		for _, n := range closuresIn(f.Body) {
			closures = append(closures, slices.Concat(n.Params, lang.Held(n), declaredIn(n.Body)))
		}
	}
	return append(names, closures...)
}

// declaredIn returns the names that statements declare outside of closures.
func declaredIn(l []api.Node) []string {
	var names []string
	for _, n := range l {
		names = append(names, declaredIn(n.Body)...)
		if n.Kind == api.KiLet || n.Kind == api.KiTry {
			names = append(names, n.Text)
		}
		names = append(names, declaredIn(n.Else)...)
	}
	return names
}

func closuresIn(l []api.Node) []api.Node {
	var found []api.Node
	for _, n := range l {
		if n.Kind == api.KiFn {
			found = append(found, n)
			continue
		}
		found = append(found, slices.Concat(closuresIn(n.Subs), closuresIn(n.Body), closuresIn(n.Else))...)
	}
	return found
}

// holds returns what a place holds in a state.
func (m *model) holds(s api.State, q api.Place) api.Value {
	switch q.Kind {
	case api.PlReg:
		for _, t := range s.Threads {
			for _, f := range t.Frames {
				if f.ID == q.A {
					return f.Regs[q.B]
				}
			}
		}
		panic("no such frame")
	case api.PlCell:
		return s.Objects[q.A].Cells[q.B]
	case api.PlLen:
		return num(int64(len(s.Objects[q.A].Cells)))
	case api.PlLock:
		return num(int64(s.Objects[q.A].Owner))
	case api.PlThread:
		return s.Threads[q.A].Result
	case api.PlOut:
		return num(s.Outcome.Out[q.A])
	}
	return num([][]int64{m.log.Inputs, m.log.Clocks}[q.A][q.B])
}

// add adds the step that a thread took from the last state but one to the last one.
func (m *model) add(thread int) {
	n := len(m.steps)
	before, after := m.states[n], m.states[n+1]
	f := before.Threads[thread].Frames[len(before.Threads[thread].Frames)-1]
	i := m.code.Chunks[f.Chunk].Code[f.PC]
	s := modelStep{instr: i, faults: after.Outcome.End == api.EnFault, caught: -1}
	s.Event = api.Event{Thread: thread, Frame: f.ID, Chunk: f.Chunk, PC: f.PC, Line: i.Line}
	s.Control = m.control(s)
	m.reads(&s, before, f)
	if !s.faults {
		m.writes(&s, before, after, f)
	}
	m.steps = append(m.steps, s)
}

func (m *model) reads(s *modelStep, before api.State, f api.Frame) {
	i := s.instr
	read := func(role api.Role, q api.Place) {
		if s.faults {
			role = api.RoTest
		}
		s.Reads = append(s.Reads, api.Read{Place: q, Value: m.holds(before, q), Role: role, From: m.lastWriter(len(m.steps), q)})
	}
	regs := func(role api.Role, first, count int) {
		for k := range count {
			read(role, reg(f.ID, first+k))
		}
	}
	at := func(k int) int { return int(f.Regs[i.D+k].N) }
	switch i.Op {
	case api.OpMove:
		regs(api.RoValue, i.A, 1)
	case api.OpUnary, api.OpNew, api.OpReturn, api.OpThrow, api.OpPrint:
		regs(api.RoValue, i.D, 1)
	case api.OpBinary:
		regs(api.RoValue, i.D, 2)
	case api.OpLoad, api.OpStore:
		regs(api.RoAddress, i.D, 2)
		if i.Op == api.OpStore {
			regs(api.RoValue, i.D+2, 1)
		} else if !s.faults {
			read(api.RoValue, cellOf(at(0), at(1)))
		}
	case api.OpClose, api.OpCall, api.OpSpawn:
		regs(api.RoValue, i.D, i.B)
	case api.OpApply:
		regs(api.RoTest, i.D, 1)
		regs(api.RoValue, i.D+1, i.B)
		if !s.faults {
			for k := range before.Objects[at(0)].Cells {
				read(api.RoValue, cellOf(at(0), k))
			}
		}
	case api.OpInput:
		if !s.faults {
			read(api.RoValue, givenOf(0, before.Inputs))
		}
	case api.OpClock:
		if !s.faults {
			read(api.RoValue, givenOf(1, before.Clocks))
		}
	case api.OpBranch, api.OpAssert:
		regs(api.RoTest, i.D, 1)
	case api.OpLen, api.OpJoin, api.OpLock, api.OpUnlock:
		regs(api.RoAddress, i.D, 1)
		if s.faults {
			return
		}
		switch i.Op {
		case api.OpLen:
			read(api.RoValue, placeOf(api.PlLen, at(0)))
		case api.OpJoin:
			read(api.RoOrder, placeOf(api.PlThread, at(0)))
		default:
			read(api.RoOrder, placeOf(api.PlLock, at(0)))
		}
	}
}

func (m *model) writes(s *modelStep, before, after api.State, f api.Frame) {
	i := s.instr
	write := func(q api.Place, fed ...int) {
		s.Writes = append(s.Writes, api.Write{Place: q, Value: m.holds(after, q)})
		s.feeds = append(s.feeds, fed)
	}
	// fresh writes the registers of the new frame, the first count of which the reads from one on feed.
	fresh := func(chunk, first, count int) {
		for b := range m.code.Chunks[chunk].Regs {
			if b < count {
				write(reg(before.Frames, b), first+b)
			} else {
				write(reg(before.Frames, b))
			}
		}
	}
	d := reg(f.ID, i.D)
	switch i.Op {
	case api.OpConst:
		write(d)
	case api.OpMove, api.OpUnary, api.OpInput, api.OpClock:
		write(d, 0)
	case api.OpBinary:
		write(d, 0, 1)
	case api.OpLoad:
		write(d, 2)
	case api.OpLen:
		write(d, 1)
	case api.OpStore:
		write(cellOf(int(f.Regs[i.D].N), int(f.Regs[i.D+1].N)), 2)
	case api.OpNew, api.OpClose:
		object := len(before.Objects)
		if i.Op == api.OpNew {
			write(placeOf(api.PlLen, object), 0)
		} else {
			write(placeOf(api.PlLen, object))
		}
		for k := range after.Objects[object].Cells {
			if i.Op == api.OpNew {
				write(cellOf(object, k))
			} else {
				write(cellOf(object, k), k)
			}
		}
		write(d)
	case api.OpCall:
		fresh(i.A, 0, i.B)
	case api.OpApply:
		closure := before.Objects[f.Regs[i.D].N]
		fresh(closure.Chunk, 1, i.B+len(closure.Cells))
	case api.OpSpawn:
		fresh(i.A, 0, i.B)
		write(placeOf(api.PlThread, len(before.Threads)))
		write(d)
	case api.OpLock, api.OpUnlock:
		write(placeOf(api.PlLock, int(f.Regs[i.D].N)))
	case api.OpPrint:
		write(placeOf(api.PlOut, len(before.Outcome.Out)), 0)
	case api.OpReturn:
		frames := after.Threads[s.Thread].Frames
		if len(frames) == 0 {
			write(placeOf(api.PlThread, s.Thread), 0)
			break
		}
		on := frames[len(frames)-1]
		write(reg(on.ID, m.code.Chunks[on.Chunk].Code[on.PC-1].D), 0)
	case api.OpThrow:
		for _, on := range slices.Backward(before.Threads[s.Thread].Frames) {
			if len(on.Tries) > 0 {
				h := on.Tries[len(on.Tries)-1]
				write(reg(on.ID, h.Reg), 0)
				code := m.code.Chunks[on.Chunk].Code
				s.caught = on.ID
				s.try = code[slices.IndexFunc(code, func(i api.Instr) bool { return i.Op == api.OpTry && i.A == h.To && i.B == h.Reg })].Line
				break
			}
		}
	}
}

// writesTo reports whether a step writes a place.
func (s modelStep) writesTo(q api.Place) bool {
	return slices.ContainsFunc(s.Writes, func(w api.Write) bool { return w.Place == q })
}

func (m *model) lastWriter(n int, q api.Place) int {
	for n--; n >= 0; n-- {
		if m.steps[n].writesTo(q) {
			return n
		}
	}
	return -1
}

// control finds the Control of the step that is added next.
func (m *model) control(s modelStep) int {
	for n := len(m.steps) - 1; n >= 0; n-- {
		b := m.steps[n]
		switch {
		case b.instr.Op == api.OpBranch && !b.faults && b.Frame == s.Frame && m.isInRegion(s.Line, b.Line):
			return n
		case b.caught == s.Frame && m.isInRegion(s.Line, b.try):
			return n
		}
	}
	for n, b := range m.steps { // the first write of a register of another frame than 0 is by the step that made it
		if s.Frame > 0 && (b.instr.Op == api.OpCall || b.instr.Op == api.OpApply || b.instr.Op == api.OpSpawn) && b.writesTo(reg(s.Frame, 0)) {
			return n
		}
	}
	return -1
}

// isInRegion reports whether the code of a statement, in the chunk of another one, is in the region of that one.
func (m *model) isInRegion(line, of int) bool {
	if line < 0 {
		return false
	}
	kind := m.nodes[of].Kind
	if line == of {
		return kind == api.KiWhile
	}
	for line >= 0 {
		spot := m.spots[line]
		if spot.Parent == of {
			return spot.Part == 2 || spot.Part == 1 && kind != api.KiTry
		}
		line = spot.Parent
	}
	return false
}

// slice returns a slice: all steps are gone through as long as one is added.
func (m *model) slice(n int, k trace.Kind) []int {
	set := map[int]bool{n: true}
	for size := 0; size < len(set); {
		size = len(set)
		for s := n; s >= 0; s-- {
			if set[s] {
				maps.Copy(set, m.needs(s, k, s == n))
			}
		}
	}
	return slices.Sorted(maps.Keys(set))
}

// needs returns the steps that a step puts into a slice.
func (m *model) needs(n int, k trace.Kind, criterion bool) map[int]bool {
	set := map[int]bool{}
	s := m.steps[n]
	for _, r := range s.Reads {
		wanted := r.Role == api.RoValue || r.Role == api.RoAddress && k >= trace.Data || r.Role == api.RoTest && (k >= trace.Full || criterion)
		if wanted && r.From >= 0 {
			set[r.From] = true
		}
		if k == trace.Relevant && r.Role != api.RoOrder {
			for b := r.From + 1; b < n; b++ {
				if m.mightWrite(m.steps[b], s, r.Place) {
					set[b] = true
				}
			}
		}
	}
	if k >= trace.Full && s.Control >= 0 {
		set[s.Control] = true
	}
	return set
}

// mightWrite reports whether a step b might have written what s reads from a place.
func (m *model) mightWrite(b, s modelStep, q api.Place) bool {
	if b.instr.Op != api.OpBranch || b.Thread != s.Thread {
		return false
	}
	n := m.nodes[b.Line]
	var side []api.Node
	switch isTrue := b.Reads[0].Value.N != 0; {
	case n.Kind == api.KiIf && isTrue:
		side = n.Else
	case n.Kind == api.KiIf || !isTrue:
		side = n.Body
	}
	switch q.Kind {
	case api.PlCell:
		return hasStatement(side, func(n api.Node) bool { return n.Kind == api.KiStore })
	case api.PlReg:
		names := m.names[b.Chunk]
		return b.Frame == q.A && q.B < len(names) && hasStatement(side, func(n api.Node) bool {
			return (n.Kind == api.KiLet || n.Kind == api.KiSet || n.Kind == api.KiTry) && n.Text == names[q.B]
		})
	}
	return false
}

// hasStatement reports whether some statement is as it is asked for, at any depth, but not in closures.
func hasStatement(l []api.Node, is func(api.Node) bool) bool {
	return slices.ContainsFunc(l, func(n api.Node) bool { return is(n) || hasStatement(n.Body, is) || hasStatement(n.Else, is) })
}

// order returns, for each step, which steps are before it.
func (m *model) order() [][]bool {
	before := make([][]bool, len(m.steps))
	for b := range m.steps {
		before[b] = make([]bool, len(m.steps))
		for a := b - 1; a >= 0; a-- {
			if m.isNext(a, b) {
				before[b][a] = true
				for c := range a {
					before[b][c] = before[b][c] || before[a][c]
				}
			}
		}
	}
	return before
}

// isNext reports whether a step is before a later one by itself, not by one between them.
func (m *model) isNext(a, b int) bool {
	x, y := m.steps[a], m.steps[b]
	switch {
	case x.Thread == y.Thread:
		return true
	case x.faults || y.faults:
		return x.instr.Op == api.OpSpawn && !x.faults && x.writesTo(placeOf(api.PlThread, y.Thread))
	case x.instr.Op == api.OpSpawn && x.writesTo(placeOf(api.PlThread, y.Thread)):
		return true
	case y.instr.Op == api.OpJoin:
		return y.Reads[0].Value.N == int64(x.Thread)
	case x.instr.Op == api.OpUnlock && y.instr.Op == api.OpLock:
		return x.Reads[1].Place == y.Reads[1].Place
	}
	return false
}

// races returns what Races is to return: all pairs are tried.
func (m *model) races() []api.Race {
	before := m.order()
	best := map[api.Place]api.Race{}
	for second, y := range m.steps {
		for first, x := range m.steps[:second] {
			q, isAccess := x.accessed()
			other, isOther := y.accessed()
			if !isAccess || !isOther || q != other || x.Thread == y.Thread || x.instr.Op != api.OpStore && y.instr.Op != api.OpStore || before[second][first] {
				continue
			}
			if _, found := best[q]; !found {
				best[q] = api.Race{Place: q, First: first, Second: second}
			}
		}
	}
	return slices.SortedFunc(maps.Values(best), func(a, b api.Race) int {
		return slices.Compare([]int{a.Place.A, a.Place.B}, []int{b.Place.A, b.Place.B})
	})
}

func (s modelStep) accessed() (api.Place, bool) {
	switch {
	case s.faults:
	case s.instr.Op == api.OpLoad:
		return s.Reads[2].Place, true
	case s.instr.Op == api.OpStore:
		return s.Writes[0].Place, true
	}
	return api.Place{}, false
}
