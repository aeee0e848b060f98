package machine_test

import (
	"fmt"
	"math/rand"
	"slices"
	"strings"
	"testing"

	"sleuth/api"
	"sleuth/lang"
	"sleuth/machine"
)

// maker makes the texts of random programs that are correct, and of which many end normally.
type maker struct {
	*rand.Rand
	threads bool
	arity   []int // of the functions that have been made; later ones call them
	last    int   // the last number in a name
	inner   bool  // inside a closure
	// the visible names: of numbers, of loops (which nothing changes), of objects and of closures
	numbers, loops, objects, closures []string
	params                            map[string]int // of closures
}

func newMaker(seed int64, threads bool) *maker {
	return &maker{Rand: rand.New(rand.NewSource(seed)), threads: threads, params: map[string]int{}}
}

func (m *maker) fresh() string {
	m.last++
	return fmt.Sprint("v", m.last)
}

func (m *maker) any(l []string) string { return l[m.Intn(len(l))] }

func (m *maker) text() string {
	var s strings.Builder
	for i := range m.Intn(4) {
		m.numbers, m.objects, m.closures, m.loops = nil, nil, nil, nil
		count := m.Intn(4)
		for range count {
			m.numbers = append(m.numbers, m.fresh())
		}
		s.WriteString(fmt.Sprintf("fun f%d(%s) {\n%s}\n", i, strings.Join(m.numbers, ", "), m.body(2, 1+m.Intn(3))))
		m.arity = append(m.arity, count)
	}
	m.numbers, m.objects, m.closures, m.loops = nil, nil, nil, nil
	return s.String() + "fun main() {\n" + m.body(3, 3+m.Intn(5)) + "}\n"
}

func (m *maker) body(deep, count int) string {
	s := ""
	for range count {
		s += m.statement(deep)
	}
	return s
}

func (m *maker) statement(deep int) string {
	kind := m.Intn(24)
	if deep <= 0 && kind >= 17 {
		kind = m.Intn(17)
	}
	switch {
	case kind < 3:
		return m.let(m.number(deep), &m.numbers)
	case kind < 5 && len(m.numbers) > 0:
		return fmt.Sprintf("%s = %s;\n", m.any(m.numbers), m.number(deep))
	case kind < 7:
		return m.let(fmt.Sprintf("new(%d)", 1+m.Intn(3)), &m.objects)
	case kind < 9 && len(m.objects) > 0:
		return fmt.Sprintf("%s[%d] = %s;\n", m.any(m.objects), m.Intn(3), m.number(deep))
	case m.threads && (kind == 12 || kind == 9) && len(m.arity) > 0:
		return m.let(m.spawned(deep), &m.loops) + m.any([]string{"", "join " + m.loops[len(m.loops)-1] + ";\n"})
	case kind == 9:
		return fmt.Sprintf("%s;\n", m.number(deep))
	case kind == 10 && m.Intn(3) == 0:
		return fmt.Sprintf("%s %s;\n", m.any([]string{"return", "throw", "assert", "join"}), m.number(deep))
	case kind == 11 && len(m.objects) > 0:
		o := m.any(m.objects)
		return fmt.Sprintf("lock %s;\n%sunlock %s;\n", o, m.body(deep-1, 1), o)
	case kind < 17:
		return fmt.Sprintf("print %s;\n", m.number(deep))
	case kind < 19:
		return m.choice(deep - 1)
	case kind == 19:
		return m.loop(deep - 1)
	case kind < 22:
		return m.guarded(deep - 1)
	case m.inner:
		return ""
	}
	return m.fn(deep - 1)
}

// let declares a name, and makes it visible behind.
func (m *maker) let(value string, among *[]string) string {
	name := m.fresh()
	*among = append(*among, name)
	return fmt.Sprintf("let %s = %s;\n", name, value)
}

func (m *maker) choice(deep int) string {
	s := fmt.Sprintf("if %s {\n%s}", m.number(deep), m.body(deep, 1+m.Intn(2)))
	if m.Intn(2) == 0 {
		s += fmt.Sprintf(" else {\n%s}", m.body(deep, 1+m.Intn(2)))
	}
	return s + "\n"
}

func (m *maker) loop(deep int) string {
	s := m.let(fmt.Sprint(1+m.Intn(3)), &m.loops)
	name := m.loops[len(m.loops)-1]
	return s + fmt.Sprintf("while %s > 0 {\n%s = %s - 1;\n%s}\n", name, name, name, m.body(deep, 1+m.Intn(2)))
}

func (m *maker) guarded(deep int) string {
	body := m.body(deep, 1+m.Intn(2))
	if m.Intn(2) == 0 {
		body += fmt.Sprintf("if %s { throw %s; }\n", m.number(deep), m.number(deep))
	}
	name := m.fresh()
	m.numbers = append(m.numbers, name)
	return fmt.Sprintf("try {\n%s} catch %s {\n%s}\n", body, name, m.body(deep, 1+m.Intn(2)))
}

// fn declares a closure.
func (m *maker) fn(deep int) string {
	numbers, loops, objects, closures := m.numbers, m.loops, m.objects, m.closures
	var params []string
	for range m.Intn(3) {
		params = append(params, m.fresh())
	}
	m.numbers = slices.Concat(numbers, params)
	m.inner = true
	body := m.body(deep, 1+m.Intn(2)) + fmt.Sprintf("return %s;\n", m.number(deep))
	m.inner = false
	m.numbers, m.loops, m.objects, m.closures = numbers, loops, objects, closures
	s := m.let(fmt.Sprintf("fn (%s) {\n%s}", strings.Join(params, ", "), body), &m.closures)
	m.params[m.closures[len(m.closures)-1]] = len(params)
	return s
}

func (m *maker) arguments(deep, count int) string {
	var l []string
	for range count {
		l = append(l, m.number(deep-1))
	}
	return "(" + strings.Join(l, ", ") + ")"
}

func (m *maker) spawned(deep int) string {
	f := m.Intn(len(m.arity))
	return fmt.Sprintf("spawn f%d%s", f, m.arguments(deep, m.arity[f]))
}

// number returns an expression that is a number, most of the time.
func (m *maker) number(deep int) string {
	kind := m.Intn(16)
	if deep <= 0 {
		kind = m.Intn(9)
	}
	switch {
	case kind < 3 && len(m.numbers)+len(m.loops) > 0:
		return m.any(slices.Concat(m.numbers, m.loops))
	case kind == 3 && len(m.objects) > 0:
		return fmt.Sprintf("%s[%d]", m.any(m.objects), m.Intn(2))
	case kind == 4 && len(m.objects) > 0:
		return fmt.Sprintf("len(%s)", m.any(m.objects))
	case kind == 5 && m.Intn(3) == 0:
		return m.any([]string{"input", "clock"})
	case kind == 6 && m.Intn(9) == 0 && len(m.objects)+len(m.closures) > 0:
		return m.any(slices.Concat(m.objects, m.closures)) // no number
	case kind < 9:
		return fmt.Sprint(m.Intn(5))
	case kind == 9:
		return fmt.Sprintf("%s(%s)", m.any([]string{"-", "!"}), m.number(deep-1))
	case kind == 10 && len(m.arity) > 0:
		f := m.Intn(len(m.arity))
		return fmt.Sprintf("f%d%s", f, m.arguments(deep, m.arity[f]))
	case kind == 11 && len(m.closures) > 0:
		g := m.any(m.closures)
		return fmt.Sprintf("%s.%s", g, m.arguments(deep, m.params[g]))
	case kind == 12 && len(m.objects) > 1:
		return fmt.Sprintf("(%s == %s)", m.any(m.objects), m.any(m.objects))
	}
	return fmt.Sprintf("(%s %s %s)", m.number(deep-1), m.any(strings.Fields(operators)), m.number(deep-1))
}

// history is a run: its states, and the threads that took the steps between them.
type history struct {
	states  []api.State
	threads []int
}

// recorded runs a machine, whose steps random threads take, until it is over or for so many steps.
func (m *maker) recorded(t *testing.T, x *machine.Machine, count int) history {
	t.Helper()
	h := history{states: []api.State{x.State()}}
	for range count {
		l := x.Runnable()
		if len(l) == 0 {
			break
		}
		thread := l[m.Intn(len(l))]
		if e := x.StepOf(thread); e != api.OK {
			t.Fatalf("thread %d: error %d", thread, e)
		}
		h.threads = append(h.threads, thread)
		h.states = append(h.states, x.State())
	}
	return h
}

// follows checks that a machine that is at a state of a run goes on as the run.
func follows(t *testing.T, what string, x *machine.Machine, h history, from int) {
	t.Helper()
	for n := from; ; n++ {
		if !machine.Same(x.State(), h.states[n]) {
			t.Fatalf("%s from %d: state %d is %+v, not %+v", what, from, n, x.State(), h.states[n])
		}
		if n == len(h.threads) {
			return
		}
		if e := x.StepOf(h.threads[n]); e != api.OK {
			t.Fatalf("%s from %d: step %d: error %d", what, from, n, e)
		}
	}
}

// runs calls a function with random runs.
func runs(t *testing.T, count int, each func(m *maker, p api.Program, g api.Given, h history)) {
	t.Helper()
	for seed := range count {
		m := newMaker(int64(seed), true)
		p, g := parsed(t, m.text()), api.Given{Inputs: []int64{3, -1, 0, 8, 2}, Clocks: []int64{10, 11, 12}}
		x, e := machine.New(p, g)
		if e != api.OK {
			t.Fatal(e)
		}
		each(m, p, g, m.recorded(t, x, 250))
	}
}

// P2.9: what a state depends on, and that a machine that is resumed, or copied, goes on as the run.
func TestRandomRuns(t *testing.T) {
	several := 0
	runs(t, 400, func(m *maker, p api.Program, g api.Given, h history) {
		last := h.states[len(h.states)-1]
		if len(last.Threads) > 1 {
			several++
		}
		other := api.Given{Inputs: append(g.Inputs[:last.Inputs:last.Inputs], 77), Clocks: append(g.Clocks[:last.Clocks:last.Clocks], 78), Picks: []uint8{1, 2, 3}}
		if last.Outcome.Fault != api.FaGiven {
			x, _ := machine.New(p, other)
			follows(t, "other inputs behind those that are read", x, h, 0)
		}
		for n, s := range h.states {
			if s.Outcome.End == api.EnNone && m.Intn(8) == 0 {
				x := resumed(t, p, g, s)
				c := x.Copy()
				follows(t, "resumed", x, h, n)
				follows(t, "a copy", c, h, n)
			}
		}
	})
	if several < 100 {
		t.Errorf("only %d runs of several threads", several)
	}
}

// P2.3, P2.4: a run whose picks are the places of its threads among the runnable ones is that run.
func TestRandomPicks(t *testing.T) {
	runs(t, 300, func(m *maker, p api.Program, g api.Given, h history) {
		x, _ := machine.New(p, g)
		for _, thread := range h.threads {
			l := x.Runnable()
			place := slices.Index(l, thread)
			g.Picks = append(g.Picks, uint8(place+len(l)*m.Intn(256/len(l))))
			if e := x.StepOf(thread); e != api.OK {
				t.Fatal(e)
			}
		}
		x, e := machine.New(p, g)
		if e != api.OK {
			t.Fatal(e)
		}
		for n, thread := range h.threads {
			if got, ok := x.Step(); got != thread || !ok || !machine.Same(x.State(), h.states[n+1]) {
				t.Fatalf("step %d: thread %d, not %d", n, got, thread)
			}
		}
		o, e := machine.Run(p, g, len(h.threads))
		want := h.states[len(h.threads)].Outcome
		if want.End == api.EnNone {
			want.End = api.EnFuel
		}
		if e != api.OK || !sameOutcome(o, want) {
			t.Fatalf("error %d, %+v and %+v", e, o, want)
		}
	})
}

// P2.8, P2.9: the states of a run are equal just where their bytes are.
func TestRandomBytes(t *testing.T) {
	runs(t, 60, func(_ *maker, _ api.Program, _ api.Given, h history) {
		for i, a := range h.states {
			for _, b := range h.states[max(0, i-9):i] {
				if machine.Same(a, b) || slices.Equal(machine.Bytes(a), machine.Bytes(b)) {
					t.Fatalf("%+v and %+v", a, b)
				}
			}
			if c := a; !machine.Same(a, c) || !slices.Equal(machine.Bytes(a), machine.Bytes(c)) {
				t.Fatalf("%+v", a)
			}
		}
	})
}

// P2.2, State: all states of runs that are not over fit, and so do those behind any state that fits; nothing panics there.
func TestRandomStates(t *testing.T) {
	accepted, refused := 0, 0
	runs(t, 200, func(m *maker, p api.Program, g api.Given, h history) {
		for range 20 {
			s := h.states[m.Intn(len(h.states))]
			x, e := machine.New(p, g)
			if e != api.OK || s.Outcome.End != api.EnNone {
				continue
			}
			x = resumed(t, p, g, s)
			s = x.State()
			for range m.Intn(4) {
				m.disturb(&s)
			}
			x, e = machine.Resume(p, g, s)
			if e != api.OK {
				refused++
				continue
			}
			accepted++
			for _, s := range m.recorded(t, x, 60).states {
				if s.Outcome.End == api.EnNone && s.Outcome.Steps <= api.MaxSteps {
					resumed(t, p, g, s)
				}
			}
		}
	})
	if accepted < 1000 || refused < 1000 {
		t.Errorf("%d states fit, %d do not", accepted, refused)
	}
}

// disturb changes something in a state.
func (m *maker) disturb(s *api.State) {
	n := m.Intn(14) - 2
	t := &s.Threads[m.Intn(len(s.Threads))]
	var o api.Object
	if len(s.Objects) > 0 {
		i := m.Intn(len(s.Objects))
		o = s.Objects[i]
		switch m.Intn(20) {
		case 0:
			s.Objects[i].Chunk = n
		case 1, 2:
			s.Objects[i].Owner = n
		}
	}
	v := api.Value{Kind: api.ValueKind(m.Intn(4)), N: int64(n)}
	switch m.Intn(12) {
	case 0:
		s.Inputs = n
	case 1:
		s.Frames += n
	case 2:
		s.Outcome.Steps += n
	case 3:
		s.Threads = append(s.Threads, api.Thread{Result: v})
	case 4:
		s.Objects = append(s.Objects, api.Object{Chunk: n, Cells: []api.Value{v}, Owner: -1})
	case 5, 6:
		if len(o.Cells) > 0 {
			o.Cells[m.Intn(len(o.Cells))] = v
		}
	default:
		m.disturbThread(t, n, v)
	}
}

func (m *maker) disturbThread(t *api.Thread, n int, v api.Value) {
	if len(t.Frames) == 0 {
		t.Result = v
		return
	}
	i := m.Intn(len(t.Frames))
	f := &t.Frames[i]
	switch m.Intn(8) {
	case 0:
		f.Chunk = n
	case 1, 2:
		f.PC += n
	case 3:
		t.Frames = append(t.Frames[:i], t.Frames[i+1:]...)
	case 4:
		f.Tries = append(f.Tries, api.Handler{To: n})
	default:
		f.Regs[m.Intn(len(f.Regs))] = v
	}
}

// junk returns a node of any kind with any fields.
func (m *maker) junk(deep int) api.Node {
	n := api.Node{Kind: api.Kind(m.Intn(30)), Text: m.any([]string{"", "x", "-", "+", "\xff", "main"}), Num: m.Int63n(5) - 1}
	for range m.Intn(deep + 1) {
		n.Subs = append(n.Subs, m.junk(deep-1))
	}
	for range m.Intn(deep + 1) {
		n.Body = append(n.Body, m.junk(deep-1))
	}
	for range m.Intn(deep + 1) {
		n.Else = append(n.Else, m.junk(deep-1))
	}
	return n
}

// P0.1: nothing panics, whatever is handed in, and incorrect programs have no code.
func TestTotal(t *testing.T) {
	m := newMaker(1, false)
	for range 3000 {
		p := api.Program{Funcs: []api.Func{{Name: m.any([]string{"main", "x", ""}), Body: []api.Node{m.junk(3)}}}}
		c, e := machine.Compile(p)
		if e != lang.Check(p) || (e == api.OK) != (len(c.Chunks) > 0) {
			t.Fatalf("error %d, %+v", e, c)
		}
		machine.New(p, api.Given{})
		machine.Run(p, api.Given{}, m.Intn(100)-1)
		machine.Resume(p, api.Given{}, full())
	}
	for seed := range 300 { // states that are of other programs
		p := parsed(t, newMaker(int64(seed), true).text())
		runs(t, 3, func(m *maker, _ api.Program, g api.Given, h history) {
			if x, e := machine.Resume(p, g, h.states[m.Intn(len(h.states))]); e == api.OK {
				m.recorded(t, x, 50)
			}
		})
	}
}
