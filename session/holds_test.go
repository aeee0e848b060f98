package session_test

import (
	"reflect"
	"slices"
	"strings"

	"sleuth/api"
	"sleuth/lang"
	"sleuth/learn"
	"sleuth/machine"
	"sleuth/rank"
	"sleuth/record"
	"sleuth/reduce"
	"sleuth/repair"
	"sleuth/trace"
)

// named is the table of the kinds of evidence: the fields that each of them has.
var named = map[api.Proof]string{
	api.PrRun: "Logs Numbers", api.PrValue: "Logs Numbers Set", api.PrSlice: "Logs Numbers Set", api.PrRace: "Logs Numbers",
	api.PrSchedule: "Logs Picks Numbers", api.PrDiagnosis: "Tests Set Witness Numbers", api.PrContract: "Tests Contracts Numbers",
	api.PrCause: "Logs Places Rest Numbers", api.PrRepair: "Other Tests Contracts Patch Set Numbers",
}

// Of some kinds how many logs, and numbers (at least, at most) there are.
var (
	logCount    = map[api.Proof]int{api.PrRun: 1, api.PrValue: 1, api.PrSlice: 1, api.PrRace: 1, api.PrSchedule: 1, api.PrCause: 2}
	numberCount = map[api.Proof][2]int{
		api.PrRun: {4, 1 << 30}, api.PrValue: {2, 2}, api.PrSlice: {1, 1}, api.PrRace: {4, 4}, api.PrSchedule: {1, 1},
		api.PrDiagnosis: {1, 1}, api.PrContract: {1, 1}, api.PrCause: {2, 2}, api.PrRepair: {2, 1 << 30},
	}
)

// isEmpty reports whether there is nothing in a field.
func isEmpty(v reflect.Value) bool {
	if v.Kind() == reflect.Struct { // Patch
		return isEmpty(v.Field(0))
	}
	return v.Len() == 0
}

// formed tells what is wrong with the fields of an evidence.
func formed(x api.Evidence) api.Errno {
	v := reflect.ValueOf(x)
	for i := range v.NumField() {
		name := v.Type().Field(i).Name
		if name != "Kind" && name != "Program" && !slices.Contains(strings.Fields(named[x.Kind]), name) && !isEmpty(v.Field(i)) {
			return api.ErrArg
		}
	}
	bounds := numberCount[x.Kind]
	if len(x.Logs) != logCount[x.Kind] || len(x.Numbers) < bounds[0] || len(x.Numbers) > bounds[1] {
		return api.ErrArg
	}
	if x.Kind == api.PrContract && (len(x.Contracts) != 1 || slices.ContainsFunc(x.Tests, func(t api.Test) bool { return len(t.Out) > 0 })) {
		return api.ErrArg
	}
	return api.OK
}

// wanted returns what Verify is to say, by the words of the chapter's table.
func wanted(x api.Evidence) api.Errno {
	if named[x.Kind] == "" {
		return api.ErrArg
	}
	p, _, e := lang.Parse(x.Program)
	if e != api.OK || lang.Check(p) != api.OK {
		return api.ErrForm
	}
	if s, _ := lang.Print(p); s != x.Program {
		return api.ErrForm
	}
	if e := formed(x); e != api.OK {
		return e
	}
	for _, l := range x.Logs {
		if record.Check(p, l) != api.OK {
			return api.ErrState
		}
	}
	if !holds(p, x) {
		return api.ErrState
	}
	return api.OK
}

// holds reports whether an evidence that has the fields of its kind, and logs of its program, holds.
func holds(p api.Program, x api.Evidence) bool {
	switch x.Kind {
	case api.PrRun:
		return slices.Equal(outcomeNumbers(repeated(p, x.Logs[0])), x.Numbers)
	case api.PrValue, api.PrSlice:
		return holdsOutput(p, x)
	case api.PrRace:
		return holdsRace(p, x)
	case api.PrSchedule:
		return holdsSchedule(p, x)
	case api.PrDiagnosis:
		return holdsDiagnosis(p, x)
	case api.PrContract:
		for _, t := range x.Tests {
			if v, e := learn.Oracle(p, x.Contracts, t.Given, int(x.Numbers[0])); e != api.OK || v == api.VeFail {
				return false
			}
		}
		return true
	case api.PrCause:
		return holdsCause(p, x)
	}
	return holdsRepair(p, x)
}

// holdsRepair runs the program and the patched one on everything: P0.7.
func holdsRepair(p api.Program, x api.Evidence) bool {
	fuel := int(x.Numbers[0])
	s := api.Suite{Tests: x.Tests, Contracts: x.Contracts, Domain: x.Numbers[2:], Inputs: int(x.Numbers[1]), Fuel: fuel}
	q, e := repair.Apply(p, x.Patch)
	if e != api.OK || repair.CheckSuite(p, s) != api.OK {
		return false
	}
	moved, _ := repair.Moved(p, x.Patch)
	var contracts []api.Contract
	for _, c := range x.Contracts {
		c.At = moved[c.At]
		if learn.CheckContract(q, c) != api.OK {
			return false
		}
		contracts = append(contracts, c)
	}
	keeps := func(g api.Given) bool {
		_, broken, _, e := learn.Keeps(q, contracts, g, fuel)
		return e == api.OK && !broken
	}
	for _, t := range x.Tests {
		if o, _ := machine.Run(q, t.Given, fuel); o.End != api.EnDone || !slices.Equal(o.Out, t.Out) || !keeps(t.Given) {
			return false
		}
	}
	var differ []int
	runs, _ := repair.Runs(s)
	for n, inputs := range runs {
		g := api.Given{Inputs: inputs}
		before, _ := machine.Run(p, g, fuel)
		after, _ := machine.Run(q, g, fuel)
		if before.End != after.End || before.Fault != after.Fault || before.Value != after.Value || !slices.Equal(before.Out, after.Out) {
			differ = append(differ, n)
		}
		if !keeps(g) {
			return false
		}
	}
	text, e := lang.Print(q)
	return e == api.OK && text == x.Other && slices.Equal(differ, x.Set)
}

// repeated returns the outcome of a log, by running what it was given.
func repeated(p api.Program, l api.Log) api.Outcome {
	g, _ := record.Given(p, l)
	o, _ := machine.Run(p, g, l.Steps)
	return o
}

func holdsOutput(p api.Program, x api.Evidence) bool {
	k := x.Numbers[0]
	o := repeated(p, x.Logs[0])
	if k < 0 || k >= int64(len(o.Out)) {
		return false
	}
	t, _ := trace.Of(p, x.Logs[0])
	out := api.Place{Kind: api.PlOut, A: int(k)}
	if x.Kind == api.PrValue {
		way, e := t.Origin(t.Len(), out)
		return e == api.OK && o.Out[k] == x.Numbers[1] && slices.Equal(way, x.Set)
	}
	rows, e := t.Rerun(x.Set)
	return e == api.OK && slices.Contains(slices.Concat(rows...), api.Write{Place: out, Value: api.Value{N: o.Out[k]}})
}

func holdsRace(p api.Program, x api.Evidence) bool {
	t, _ := trace.Of(p, x.Logs[0])
	code, _ := machine.Compile(p)
	cell := api.Place{Kind: api.PlCell, A: int(x.Numbers[0]), B: int(x.Numbers[1])}
	a, b := int(x.Numbers[2]), int(x.Numbers[3])
	if a < 0 || a >= b || b >= t.Len() || t.Before(a, b) || t.Before(b, a) {
		return false
	}
	var threads []int
	writes := 0
	for _, n := range []int{a, b} {
		v, _ := t.Event(n)
		op := code.Chunks[v.Chunk].Code[v.PC].Op
		touches := false
		for _, r := range v.Reads {
			touches = touches || r.Place == cell
		}
		for _, w := range v.Writes {
			if w.Place == cell {
				touches = true
				writes++
			}
		}
		if !touches || op != api.OpLoad && op != api.OpStore {
			return false
		}
		threads = append(threads, v.Thread)
	}
	return writes > 0 && threads[0] != threads[1]
}

func holdsSchedule(p api.Program, x api.Evidence) bool {
	o := repeated(p, x.Logs[0])
	fails := func(picks []api.Pick) (bool, api.Errno) {
		_, y, e := record.Follow(p, api.Given{Inputs: x.Logs[0].Inputs, Clocks: x.Logs[0].Clocks}, picks, int(x.Numbers[0]))
		return learn.Verdict(y, api.Outcome{}, o) == api.VeFail, e
	}
	l, e := reduce.Normal(x.Picks)
	if e != api.OK || len(l) != len(x.Picks) {
		return false
	}
	if failed, e := fails(x.Picks); e != api.OK || !failed {
		return false
	}
	for at := range x.Picks {
		if joined, e := reduce.Join(x.Picks, at); e == api.OK {
			if failed, _ := fails(joined); failed {
				return false
			}
		}
	}
	return true
}

func holdsDiagnosis(p api.Program, x api.Evidence) bool {
	q, e := rank.Open(p, x.Set)
	if e != api.OK || len(x.Witness) != len(x.Tests) {
		return false
	}
	for i, t := range x.Tests {
		o, e := machine.Run(q, api.Given{Inputs: t.Given.Inputs, Clocks: x.Witness[i], Picks: t.Given.Picks}, int(x.Numbers[0]))
		if len(t.Given.Clocks) > 0 || e != api.OK || o.End != api.EnDone || !slices.Equal(o.Out, t.Out) {
			return false
		}
	}
	return true
}

func holdsCause(p api.Program, x api.Evidence) bool {
	n, fuel := int(x.Numbers[0]), int(x.Numbers[1])
	if n < 0 || n > min(x.Logs[0].Steps, x.Logs[1].Steps) || len(x.Rest) == 0 {
		return false
	}
	a, b := stateOf(p, x.Logs[0], n), stateOf(p, x.Logs[1], n)
	differ, alike := learn.Differences(a, b)
	seen := map[api.Place]int{}
	for _, q := range slices.Concat(x.Places, x.Rest) {
		seen[q]++
		if seen[q] > 1 || !alike || !slices.Contains(differ, q) {
			return false
		}
	}
	g, _ := record.Given(p, x.Logs[0])
	verdict := func(at []api.Place) api.Verdict {
		s := stateOf(p, x.Logs[0], n)
		for _, q := range at {
			put(s, b, q)
		}
		m, e := machine.Resume(p, g, s)
		if e != api.OK {
			return api.VeNone
		}
		o, e := m.Finish(fuel)
		if e != api.OK {
			return api.VeNone
		}
		return learn.Verdict(o, repeated(p, x.Logs[0]), repeated(p, x.Logs[1]))
	}
	return alike && verdict(x.Places) == api.VePass && verdict(slices.Concat(x.Places, x.Rest)) == api.VeFail
}

// stateOf returns a state of a log, by running what it was given.
func stateOf(p api.Program, l api.Log, n int) api.State {
	g, _ := record.Given(p, l)
	m, _ := machine.New(p, g)
	m.Finish(n)
	return m.State()
}

// put puts the value that a place has in another state into a state.
func put(s, other api.State, q api.Place) {
	if q.Kind == api.PlCell {
		s.Objects[q.A].Cells[q.B] = other.Objects[q.A].Cells[q.B]
		return
	}
	for i, t := range s.Threads {
		for j, f := range t.Frames {
			if f.ID == q.A {
				f.Regs[q.B] = other.Threads[i].Frames[j].Regs[q.B]
			}
		}
	}
}
