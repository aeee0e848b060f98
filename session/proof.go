package session

import (
	"slices"

	"sleuth/api"
	"sleuth/lang"
	"sleuth/learn"
	"sleuth/machine"
	"sleuth/rank"
	"sleuth/record"
	"sleuth/reduce"
	"sleuth/repair"
	"sleuth/trace"
)

// proof is an evidence that has the fields of its kind, and its program.
type proof struct {
	api.Evidence
	program api.Program
}

func (x proof) number(i int) int { return int(x.Numbers[i]) }

// outcomeOf returns the outcome of a log of a program, and whether it is one.
func outcomeOf(p api.Program, l api.Log) (api.Outcome, bool) {
	r, e := record.Open(p, l, api.MaxSteps)
	if e != api.OK {
		return api.Outcome{}, false
	}
	r.Goto(r.Len())
	o := r.State().Outcome
	if o.End == api.EnNone {
		o.End = api.EnFuel
	}
	return o, true
}

// outcomeNumbers returns the numbers that tell an outcome.
func outcomeNumbers(o api.Outcome) []int64 {
	return append([]int64{int64(o.End), int64(o.Fault), int64(o.Line), int64(o.Steps)}, o.Out...)
}

// output returns the place of a number of the output.
func output(k int) api.Place { return api.Place{Kind: api.PlOut, A: k} }

func (x proof) isOfRun() bool {
	o, made := outcomeOf(x.program, x.Logs[0])
	return made && slices.Equal(outcomeNumbers(o), x.Numbers)
}

func (x proof) isOfValue() bool {
	t, e := trace.Of(x.program, x.Logs[0])
	if e != api.OK {
		return false
	}
	k := output(x.number(0))
	v, printed := t.Value(t.Len(), k)
	way, e := t.Origin(t.Len(), k)
	return printed && v == api.Value{N: x.Numbers[1]} && e == api.OK && slices.Equal(way, x.Set)
}

func (x proof) isOfSlice() bool {
	t, e := trace.Of(x.program, x.Logs[0])
	if e != api.OK {
		return false
	}
	k := output(x.number(0))
	v, printed := t.Value(t.Len(), k)
	steps, e := t.Rerun(x.Set)
	return printed && e == api.OK && slices.ContainsFunc(steps, func(l []api.Write) bool {
		return slices.Contains(l, api.Write{Place: k, Value: v})
	})
}

func (x proof) isOfRace() bool {
	t, e := trace.Of(x.program, x.Logs[0])
	if e != api.OK {
		return false
	}
	cell := api.Place{Kind: api.PlCell, A: x.number(0), B: x.number(1)}
	a, b := x.number(2), x.number(3)
	first, firstError := t.Event(a)
	second, secondError := t.Event(b)
	switch {
	case firstError != api.OK || secondError != api.OK:
		return false
	case a >= b || first.Thread == second.Thread || t.Before(a, b) || t.Before(b, a):
		return false
	case !x.accesses(first, cell) || !x.accesses(second, cell):
		return false
	}
	return writes(first, cell) || writes(second, cell)
}

// accesses reports whether a step is an OpLoad or OpStore that reads or writes a cell.
func (x proof) accesses(v api.Event, cell api.Place) bool {
	code, e := machine.Compile(x.program)
	if e != api.OK {
		return false
	}
	op := code.Chunks[v.Chunk].Code[v.PC].Op
	reads := slices.ContainsFunc(v.Reads, func(r api.Read) bool { return r.Place == cell })
	return (op == api.OpLoad || op == api.OpStore) && (reads || writes(v, cell))
}

func writes(v api.Event, cell api.Place) bool {
	return slices.ContainsFunc(v.Writes, func(w api.Write) bool { return w.Place == cell })
}

func (x proof) isOfSchedule() bool {
	o, made := outcomeOf(x.program, x.Logs[0])
	normal, normalError := reduce.Normal(x.Picks)
	at, e := reduce.Preemptions(x.Picks)
	if !made || normalError != api.OK || e != api.OK || !slices.Equal(normal, x.Picks) {
		return false
	}
	t := target{x.program, x.Logs[0], x.number(0), o}
	if v, e := t.verdict(x.Picks); e != api.OK || v != api.VeFail {
		return false
	}
	return !slices.ContainsFunc(at, func(n int) bool {
		joined, joinError := reduce.Join(x.Picks, n)
		v, e := t.verdict(joined)
		return joinError != api.OK || e != api.OK || v == api.VeFail
	})
}

func (x proof) isOfDiagnosis() bool {
	opened, e := rank.Open(x.program, x.Set)
	if e != api.OK || len(x.Witness) != len(x.Tests) {
		return false
	}
	for i, t := range x.Tests {
		if len(t.Given.Clocks) > 0 {
			return false
		}
		t.Given.Clocks = x.Witness[i]
		if met, e := rank.Meets(opened, t, x.number(0)); e != api.OK || !met {
			return false
		}
	}
	return true
}

func (x proof) isOfContract() bool {
	for _, t := range x.Tests {
		if _, broken, _, e := learn.Keeps(x.program, x.Contracts, t.Given, x.number(0)); e != api.OK || broken {
			return false
		}
	}
	return true
}

func (x proof) isOfCause() bool {
	all := slices.Concat(x.Places, x.Rest)
	return len(x.Rest) > 0 && !hasTwice(all) && x.verdict(x.Places) == api.VePass && x.verdict(all) == api.VeFail
}

// stateAt returns a state of a log of a program, and whether there is one.
func stateAt(p api.Program, l api.Log, n int) (api.State, bool) {
	r, e := record.Open(p, l, api.MaxSteps)
	if e != api.OK || r.Goto(n) != api.OK {
		return api.State{}, false
	}
	return r.State(), true
}

func hasTwice(l []api.Place) bool {
	seen := map[api.Place]bool{}
	for _, q := range l {
		if seen[q] {
			return true
		}
		seen[q] = true
	}
	return false
}

// verdict returns the verdict on the passing run's state with the failing run's values at some places; VeNone if there is none.
func (x proof) verdict(at []api.Place) api.Verdict {
	pass, passMade := stateAt(x.program, x.Logs[0], x.number(0))
	fail, failMade := stateAt(x.program, x.Logs[1], x.number(0))
	mixed, e := learn.Mix(pass, fail, at)
	if !passMade || !failMade || e != api.OK {
		return api.VeNone
	}
	o, e := x.resumed(mixed)
	if e != api.OK {
		return api.VeNone
	}
	passed, _ := outcomeOf(x.program, x.Logs[0])
	failed, _ := outcomeOf(x.program, x.Logs[1])
	return learn.Verdict(o, passed, failed)
}

// resumed returns the outcome of the passing run that goes on from a state.
func (x proof) resumed(s api.State) (api.Outcome, api.Errno) {
	given, e := record.Given(x.program, x.Logs[0])
	if e != api.OK {
		return api.Outcome{}, e
	}
	m, e := machine.Resume(x.program, given, s)
	if e != api.OK {
		return api.Outcome{}, e
	}
	return m.Finish(x.number(1))
}

func (x proof) isOfRepair() bool {
	s := api.Suite{Tests: x.Tests, Contracts: x.Contracts, Domain: x.Numbers[2:], Inputs: x.number(1), Fuel: x.number(0)}
	j, e := repair.Judge(x.program, x.Patch, s)
	if e != api.OK || !repair.Accepts(j) || !slices.Equal(j.Changed, x.Set) {
		return false
	}
	q, applyError := repair.Apply(x.program, x.Patch)
	text, printError := lang.Print(q)
	return applyError == api.OK && printError == api.OK && text == x.Other
}
