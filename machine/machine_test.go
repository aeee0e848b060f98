package machine_test

import (
	"fmt"
	"reflect"
	"slices"
	"testing"

	"sleuth/api"
	"sleuth/machine"
)

// racing is a program whose threads 1 and 2 print without an end, beside thread 0, which does so too.
const racing = "fun f(n) { while 1 { print n; } } fun main() { spawn f(1); spawn f(2); while 1 { print 0; } }"

// P2.2: the beginning of a run.
func TestNew(t *testing.T) {
	m := begun(t, "fun f() { } fun main() { let a = 1; }", given())
	want := api.State{Frames: 1, Threads: []api.Thread{{Frames: []api.Frame{{Chunk: 1, Regs: make([]api.Value, 2)}}}}}
	if !machine.Same(m.State(), want) || m.Over() {
		t.Errorf("%+v", m.State())
	}
}

// P2.2: the limits of what is given, for New, Resume and Run.
func TestGivenLimits(t *testing.T) {
	p := parsed(t, main("print input; print clock;"))
	for _, x := range []struct {
		inputs, clocks, picks int
		want                  api.Errno
	}{
		{api.MaxGiven, api.MaxGiven, api.MaxSteps, api.OK},
		{api.MaxGiven + 1, 1, 0, api.ErrLimit},
		{1, api.MaxGiven + 1, 0, api.ErrLimit},
		{1, 1, api.MaxSteps + 1, api.ErrLimit},
	} {
		g := api.Given{Inputs: make([]int64, x.inputs), Clocks: make([]int64, x.clocks), Picks: make([]uint8, x.picks)}
		m, e := machine.New(p, g)
		if e != x.want || (m != nil) != (e == api.OK) {
			t.Errorf("New with %+v: error %d", x, e)
		}
		first := begun(t, main("print input; print clock;"), api.Given{}).State()
		if m, e := machine.Resume(p, g, first); e != x.want || (m != nil) != (e == api.OK) {
			t.Errorf("Resume with %+v: error %d", x, e)
		}
		want := x.want
		if want == api.OK {
			want = api.ErrState
		}
		if m, e := machine.Resume(p, g, api.State{}); e != want || m != nil {
			t.Errorf("Resume in no state with %+v: error %d", x, e)
		}
		if o, e := machine.Run(p, g, 99); e != x.want || (o.End == api.EnDone) != (e == api.OK) {
			t.Errorf("Run with %+v: error %d, %+v", x, e, o)
		}
		if o, e := machine.Run(p, g, -1); e != api.ErrArg || !sameOutcome(o, api.Outcome{}) {
			t.Errorf("Run with %+v and no fuel: error %d", x, e)
		}
	}
	if o := finished(t, main("let i = 1024; while i { i = i - 1; input; } print input;"), api.Given{Inputs: make([]int64, api.MaxGiven)}); o.Fault != api.FaGiven || o.Line != 4 {
		t.Errorf("%+v", o)
	}
}

// P2.2: Code.
func TestCode(t *testing.T) {
	for _, text := range []string{racing, main("let x = 1; fn () { x; };"), main("")} {
		if c := begun(t, text, api.Given{}).Code(); !reflect.DeepEqual(c, compiled(t, text)) {
			t.Errorf("%s: %v", text, c)
		}
	}
}

// P2.3: which threads are runnable, from state to state.
func TestRunnable(t *testing.T) {
	text := `
fun f(o) { lock o; unlock o; }
fun g() { join 1; }
fun main() { let o = new(0); lock o; let a = spawn f(o); let b = spawn g(); join a; }`
	m := begun(t, text, api.Given{})
	var got []string
	see := func() {
		if s := fmt.Sprint(m.Runnable()); len(got) == 0 || got[len(got)-1] != s {
			got = append(got, s)
		}
	}
	for _, thread := range []int{0, 0, 0, 0, 0, 0, 0, 0, 0, 0, 1, 2} {
		see()
		if e := m.StepOf(thread); e != api.OK {
			t.Fatalf("thread %d: error %d", thread, e)
		}
	}
	see()
	if want := []string{"[0]", "[0 1]", "[0 1 2]", "[0 2]", "[0]"}; !slices.Equal(got, want) {
		t.Errorf("%v", got)
	}
	for thread, want := range []string{"move d3 a1 @7", "lock d1", "join @2"} {
		if i, e := m.Next(thread); e != api.OK || asm(i) != want {
			t.Errorf("thread %d: error %d, %s", thread, e, asm(i))
		}
	}
	if e := m.StepOf(0); e != api.OK {
		t.Fatal(e)
	}
	// main waits for f, which waits for a lock that main has
	if !m.Over() || len(m.Runnable()) != 0 || m.State().Outcome.End != api.EnDeadlock {
		t.Errorf("%+v", m.State().Outcome)
	}
}

// P2.3: what a thread waits for, behind so many steps of the scheduler's.
func TestWaiting(t *testing.T) {
	loops := "fun f(o) { while 1 { } } "
	for _, x := range []struct {
		text  string
		count int
		want  string
	}{
		{loops + main("join spawn f(0);"), 2, "[1]"},
		// the owner of a lock has ended
		{"fun f(o) { lock o; } " + main("let o = new(0); join spawn f(o); lock o;"), 11, "[]"},
		// what is at hand
		{"fun f(o) { } " + main("let t = spawn f(0); join t; join t;"), 9, "[0]"},
		{loops + main("let o = new(0); spawn f(o); lock o;"), 6, "[0 1]"},
		// what will be a fault
		{loops + main("let o = new(0); spawn f(o); lock o; lock o;"), 8, "[0 1]"},
		{loops + main("spawn f(0); join 0;"), 3, "[0 1]"},
		{loops + main("spawn f(0); join 2;"), 3, "[0 1]"},
		{loops + main("spawn f(0); join -1;"), 4, "[0 1]"},
		{loops + main("spawn f(0); join new(0);"), 4, "[0 1]"},
		{loops + main("spawn f(0); lock 0;"), 3, "[0 1]"},
		{loops + main("spawn f(0); lock fn () { };"), 3, "[0 1]"},
	} {
		m := begun(t, x.text, api.Given{})
		steps(t, m, x.count)
		if got := fmt.Sprint(m.Runnable()); got != x.want {
			t.Errorf("%s: %s", x.text, got)
		}
	}
}

// P2.3: Next, of threads that there are not, or that cannot go on.
func TestNext(t *testing.T) {
	m := begun(t, "fun f() { } fun main() { join spawn f(); while 1 { } }", api.Given{})
	for _, thread := range []int{-1, 1, 2, 1 << 62} {
		if i, e := m.Next(thread); e != api.ErrNone || i != (api.Instr{}) {
			t.Errorf("thread %d: error %d, %v", thread, e, i)
		}
		if e := m.StepOf(thread); e != api.ErrNone {
			t.Errorf("StepOf(%d): error %d", thread, e)
		}
	}
	if i, e := m.Next(0); e != api.OK || i != (api.Instr{Op: api.OpSpawn}) {
		t.Errorf("error %d, %v", e, i)
	}
	steps(t, m, 1)
	if i, e := m.Next(0); e != api.OK || asm(i) != "join" {
		t.Errorf("error %d, %v", e, i)
	}
	before := m.State()
	if e := m.StepOf(0); e != api.ErrState || !machine.Same(before, m.State()) {
		t.Errorf("a thread that waits goes on: error %d", e)
	}
	steps(t, m, 2) // thread 1 ends
	if i, e := m.Next(1); e != api.ErrNone || i != (api.Instr{}) {
		t.Errorf("a thread that has ended: error %d, %v", e, i)
	}
	if e := m.StepOf(1); e != api.ErrState {
		t.Errorf("a thread that has ended goes on: error %d", e)
	}
	// a run that is over
	m = begun(t, "fun f() { while 1 { } } fun main() { spawn f(); assert 0; }", api.Given{})
	m.Finish(99)
	for thread, want := range []api.Errno{api.ErrState, api.ErrState, api.ErrNone} {
		if i, e := m.Next(thread); e != want || i != (api.Instr{}) {
			t.Errorf("thread %d: error %d, %v", thread, e, i)
		}
	}
	m = begun(t, "fun f() { while 1 { } } fun main() { spawn f(); }", api.Given{})
	m.Finish(99)
	for thread, want := range []api.Errno{api.ErrNone, api.ErrState, api.ErrNone} {
		if i, e := m.Next(thread); e != want || i != (api.Instr{}) {
			t.Errorf("thread %d: error %d, %v", thread, e, i)
		}
	}
}

// P2.3: a thread that threw what nothing catches has no frames, like one that has ended.
func TestNextThrown(t *testing.T) {
	m := begun(t, main("throw 1;"), api.Given{})
	m.Finish(9)
	if i, e := m.Next(0); e != api.ErrNone || i != (api.Instr{}) || m.State().Outcome.End != api.EnThrown {
		t.Errorf("error %d, %v", e, i)
	}
}

// order returns which threads a machine lets take its next steps; Pick must foretell each.
func order(t *testing.T, m *machine.Machine, count int) string {
	t.Helper()
	s := ""
	for range count {
		want, can := m.Pick()
		thread, ok := m.Step()
		if thread != want || ok != can {
			t.Fatalf("Pick tells %d, and %d took the step", want, thread)
		}
		if !ok {
			return s + "."
		}
		s += fmt.Sprint(thread)
	}
	return s
}

// P2.3, P2.4: the scheduler.
func TestScheduler(t *testing.T) {
	for _, x := range []struct {
		picks []uint8
		count int
		want  string
	}{
		{nil, 12, "000000000000"},
		{[]uint8{9, 255, 0, 1, 1, 2}, 12, "000110000000"},
		// from step 4 on there are three threads
		{[]uint8{0, 0, 0, 0, 1, 2, 3, 4, 5, 255, 254, 253, 7}, 18, "000012012021111111"},
		{[]uint8{0, 0, 0, 0, 2}, 8, "00002222"},
	} {
		if got := order(t, begun(t, racing, api.Given{Picks: x.picks}), x.count); got != x.want {
			t.Errorf("%v: %s", x.picks, got)
		}
	}
	// without picks: as long as it goes, and then the first one that can go on
	for text, want := range map[string]string{
		"fun f() { 1; } fun main() { spawn f(); let b = spawn f(); join b; join 1; }":                           "000011122200000.",
		"fun f() { 1; } fun main() { let a = spawn f(); spawn f(); join a; join 2; }":                           "000011100222000.",
		"fun f(o) { lock o; unlock o; } fun main() { let o = new(0); lock o; join spawn f(o); }":                "00000001.",
		"fun f(o) { lock o; } fun main() { let o = new(0); lock o; spawn f(o); spawn f(o); unlock o; join 1; }": "0000000000001111000.",
	} {
		if got := order(t, begun(t, text, api.Given{}), 100); got != want {
			t.Errorf("%s: %s", text, got)
		}
	}
}

// P2.4: StepOf passes the pick of its step over, and its thread then counts as the last one.
func TestStepOf(t *testing.T) {
	m := begun(t, racing, api.Given{Picks: []uint8{0, 0, 0, 0, 1, 2, 1, 2}})
	steps(t, m, 4)
	for _, thread := range []int{0, 2} {
		if e := m.StepOf(thread); e != api.OK {
			t.Fatal(e)
		}
	}
	if got := order(t, m, 4); got != "1222" {
		t.Errorf("%s", got)
	}
	m.StepOf(1)
	if got := order(t, m, 3); got != "111" {
		t.Errorf("%s", got)
	}
	if n := m.State().Outcome.Steps; n != 14 {
		t.Errorf("%d steps", n)
	}
}

// P2.2, P2.5: which thread counts as the last one in a machine that is resumed, and in a copy.
func TestLastThread(t *testing.T) {
	m := begun(t, racing, api.Given{})
	steps(t, m, 4)
	m.StepOf(2)
	r, c := resumed(t, parsed(t, racing), api.Given{}, m.State()), m.Copy()
	if got := order(t, r, 3); got != "000" {
		t.Errorf("resumed: %s", got)
	}
	if got := order(t, c, 3); got != "222" {
		t.Errorf("copy: %s", got)
	}
	// the picks of a machine that is resumed go on behind the steps of the state
	s := m.State()
	r = resumed(t, parsed(t, racing), api.Given{Picks: []uint8{0, 0, 0, 0, 0, 1, 2}}, s)
	if got := order(t, r, 4); got != "1222" {
		t.Errorf("resumed: %s", got)
	}
}

// P2.2: a machine may be resumed in a state in which nothing goes on.
func TestResumeDeadlock(t *testing.T) {
	text := "fun f(o) { lock o; } fun main() { let o = new(0); join spawn f(o); 1; lock o; }"
	m := begun(t, text, api.Given{})
	var s api.State
	for !m.Over() {
		s = m.State()
		m.Step()
	}
	s.Threads[0].Frames[0].PC++ // at the lock
	s.Threads[0].Frames[0].Regs[1] = ref(0)
	r := resumed(t, parsed(t, text), api.Given{}, s)
	want := m.State()
	want.Outcome.Steps--
	if !r.Over() || !machine.Same(r.State(), want) {
		t.Errorf("%+v", r.State())
	}
	if o, e := r.Finish(5); e != api.OK || o.End != api.EnDeadlock {
		t.Errorf("error %d, %+v", e, o)
	}
}

// P2.5, R4: a copy, a state, the code and what is handed in live apart from the machine.
func TestApart(t *testing.T) {
	text := `
fun f(o) { lock o; try { throw input; } catch e { o[0] = e; } print fn () { try { return e + o[0] + clock; } catch d { } }.(); unlock o; while 1 { } }
fun main() { let o = new(2); o[1] = o; spawn f(o); spawn f(o); while 1 { } }`
	p, g := parsed(t, text), api.Given{Inputs: []int64{5, 6}, Clocks: []int64{70, 80}, Picks: make([]uint8, 300)}
	for i := range g.Picks {
		g.Picks[i] = uint8(i * i)
	}
	m, e := machine.New(p, g)
	if e != api.OK {
		t.Fatal(e)
	}
	twin := begun(t, text, api.Given{Inputs: slices.Clone(g.Inputs), Clocks: slices.Clone(g.Clocks), Picks: slices.Clone(g.Picks)})
	spoilNodes(p.Funcs[0].Body)
	clear(g.Inputs)
	clear(g.Clocks)
	clear(g.Picks)
	for range 300 {
		s := twin.State()
		r := resumed(t, parsed(t, text), api.Given{Inputs: []int64{5, 6}, Clocks: []int64{70, 80}}, s)
		spoilState(s)
		c := m.Copy()
		spoilState(m.State())
		spoilCode(m.Code())
		spoilState(r.Copy().State())
		if !machine.Same(r.State(), twin.State()) || !machine.Same(m.State(), twin.State()) || !machine.Same(c.State(), twin.State()) {
			t.Fatalf("%+v and %+v", m.State(), twin.State())
		}
		o, _ := c.Finish(20)
		behind := machine.Bytes(c.State())
		spoilNumbers(o.Out)
		if !slices.Equal(machine.Bytes(c.State()), behind) {
			t.Fatal("an outcome shares memory with its machine")
		}
		r.Finish(20)
		clear(m.Runnable())
		m.Step()
		twin.Step()
	}
	if got := twin.State().Outcome.Out; !slices.Equal(got, []int64{80, 92}) {
		t.Errorf("%v", got)
	}
}

func spoilNodes(l []api.Node) {
	for i, n := range l {
		spoilNodes(n.Subs)
		spoilNodes(n.Body)
		spoilNodes(n.Else)
		l[i] = api.Node{Kind: 200, Text: "spoilt"}
	}
}

func spoilNumbers(l []int64) {
	for i := range l[:cap(l)] {
		l[:cap(l)][i] = -99
	}
}

// spoilState overwrites all memory that the lists of a state have, what lies behind their ends included.
func spoilState(s api.State) {
	for _, t := range s.Threads[:cap(s.Threads)] {
		for _, f := range t.Frames[:cap(t.Frames)] {
			spoilValues(f.Regs)
			for i := range f.Tries[:cap(f.Tries)] {
				f.Tries[:cap(f.Tries)][i] = api.Handler{To: -9, Reg: -9}
			}
		}
		clear(t.Frames[:cap(t.Frames)])
	}
	clear(s.Threads[:cap(s.Threads)])
	for _, o := range s.Objects[:cap(s.Objects)] {
		spoilValues(o.Cells)
	}
	clear(s.Objects[:cap(s.Objects)])
	spoilNumbers(s.Outcome.Out)
}

func spoilValues(l []api.Value) {
	for i := range l[:cap(l)] {
		l[:cap(l)][i] = api.Value{Kind: 9, N: -99}
	}
}

func spoilCode(c api.Code) {
	for _, k := range c.Chunks[:cap(c.Chunks)] {
		clear(k.Code[:cap(k.Code)])
	}
	clear(c.Chunks[:cap(c.Chunks)])
}

// R4: Compile returns new memory each time.
func TestCompileApart(t *testing.T) {
	p := parsed(t, main("let x = 1; fn () { x; };"))
	c, _ := machine.Compile(p)
	want, _ := machine.Compile(p)
	spoilCode(c)
	if again, e := machine.Compile(p); e != api.OK || !reflect.DeepEqual(again, want) {
		t.Errorf("error %d, %v", e, again)
	}
}

// P2.6: how far Finish and Run go.
func TestFinish(t *testing.T) {
	p := parsed(t, main("print 1 + 2;"))
	done := api.Outcome{End: api.EnDone, Out: []int64{3}, Steps: 6}
	for fuel, want := range map[int]api.Outcome{
		0:            {End: api.EnFuel},
		3:            {End: api.EnFuel, Steps: 3},
		5:            {End: api.EnFuel, Out: []int64{3}, Steps: 5},
		6:            done,
		7:            done,
		api.MaxSteps: done,
	} {
		if o, e := machine.Run(p, api.Given{}, fuel); e != api.OK || !sameOutcome(o, want) {
			t.Errorf("fuel %d: error %d, %+v", fuel, e, o)
		}
		m, _ := machine.New(p, api.Given{})
		if o, e := m.Finish(fuel); e != api.OK || !sameOutcome(o, want) {
			t.Errorf("Finish with %d: error %d, %+v", fuel, e, o)
		}
	}
	for _, fuel := range []int{-1, api.MaxSteps + 1, -1 << 63, 1<<63 - 1} {
		m, _ := machine.New(p, api.Given{})
		if o, e := m.Finish(fuel); e != api.ErrArg || !sameOutcome(o, api.Outcome{}) || m.State().Outcome.Steps != 0 {
			t.Errorf("Finish with %d: error %d, %+v", fuel, e, o)
		}
		if o, e := machine.Run(p, api.Given{}, fuel); e != api.ErrArg || !sameOutcome(o, api.Outcome{}) {
			t.Errorf("Run with %d: error %d, %+v", fuel, e, o)
		}
		if _, e := machine.Run(api.Program{}, api.Given{}, fuel); e != api.ErrArg {
			t.Errorf("Run with %d of no program: error %d", fuel, e)
		}
	}
}

// P2.6: a machine that had not enough fuel goes on, also above MaxSteps.
func TestFinishGoesOn(t *testing.T) {
	m := begun(t, main("while 1 { }"), api.Given{})
	for _, want := range []int{api.MaxSteps, 2 * api.MaxSteps} {
		o, e := m.Finish(api.MaxSteps)
		if e != api.OK || !sameOutcome(o, api.Outcome{End: api.EnFuel, Steps: want}) {
			t.Fatalf("error %d, %+v", e, o)
		}
		if m.Over() || m.State().Outcome.End != api.EnNone || len(m.Runnable()) != 1 {
			t.Fatalf("%+v", m.State().Outcome)
		}
	}
	// a run that is over just then does not lack fuel
	text := "fun f() { join 0; } fun main() { join spawn f(); }"
	if o, e := machine.Run(parsed(t, text), api.Given{}, 2); e != api.OK || o.End != api.EnDeadlock {
		t.Errorf("error %d, %+v", e, o)
	}
	if o, e := machine.Run(parsed(t, text), api.Given{}, 1); e != api.OK || o.End != api.EnFuel {
		t.Errorf("error %d, %+v", e, o)
	}
}

// R3: machines that are nil, or that no function returned.
func TestNoMachine(t *testing.T) {
	var zero machine.Machine
	copied := *begun(t, racing, api.Given{})
	for what, m := range map[string]*machine.Machine{"nil": nil, "zero": &zero, "copied struct": &copied} {
		if c := m.Code(); c.Chunks != nil || c.Main != 0 {
			t.Errorf("%s: Code %v", what, c)
		}
		if l := m.Runnable(); l != nil {
			t.Errorf("%s: Runnable %v", what, l)
		}
		if i, e := m.Next(0); e != api.ErrNil || i != (api.Instr{}) {
			t.Errorf("%s: Next: error %d, %v", what, e, i)
		}
		if n, ok := m.Pick(); n != 0 || ok {
			t.Errorf("%s: Pick %d", what, n)
		}
		if n, ok := m.Step(); n != 0 || ok {
			t.Errorf("%s: Step %d", what, n)
		}
		if e := m.StepOf(0); e != api.ErrNil {
			t.Errorf("%s: StepOf: error %d", what, e)
		}
		if m.Over() || !reflect.DeepEqual(m.State(), api.State{}) || m.Copy() != nil {
			t.Errorf("%s: a state", what)
		}
		for _, fuel := range []int{0, 9, -1} {
			if o, e := m.Finish(fuel); e != api.ErrNil || !reflect.DeepEqual(o, api.Outcome{}) {
				t.Errorf("%s: Finish: error %d, %v", what, e, o)
			}
		}
	}
}
