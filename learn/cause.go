package learn

import (
	"slices"

	"sleuth/api"
	"sleuth/machine"
	"sleuth/record"
	"sleuth/reduce"
)

// isLike reports whether a run came to the same as another one.
func isLike(x, y api.Outcome) bool {
	if x.End != y.End || x.Fault != y.Fault || x.Line != y.Line {
		return false
	}
	return x.End != api.EnDone && x.End != api.EnThrown || x.Value == y.Value && slices.Equal(x.Out, y.Out)
}

// Verdict returns the verdict on an outcome: P8.4.
func Verdict(x, pass, fail api.Outcome) api.Verdict {
	switch {
	case isLike(x, fail):
		return api.VeFail
	case isLike(x, pass):
		return api.VePass
	}
	return api.VeUnknown
}

// contrast is two runs of a program, which are compared state by state.
type contrast struct {
	program        api.Program
	given          api.Given // with this, the passing run goes on as it did
	fuel           int
	pass, fail     *record.Player
	passed, failed api.Outcome
}

// contrasted returns two runs of a program: the errors of Isolate, with an argument that is allowed or not.
func contrasted(p api.Program, pass, fail api.Log, fuel int, allowed bool) (*contrast, api.Errno) {
	x := contrast{program: p, fuel: fuel}
	var e api.Errno
	// A checkpoint at the beginning is enough for going through the states once.
	if x.pass, e = record.Open(p, pass, api.MaxSteps); e != api.OK {
		return nil, e
	}
	if x.fail, e = record.Open(p, fail, api.MaxSteps); e != api.OK {
		return nil, e
	}
	if !isFuel(fuel) || !allowed {
		return nil, api.ErrArg
	}
	x.passed, x.failed = outcome(x.pass), outcome(x.fail)
	if Verdict(x.passed, x.passed, x.failed) == api.VeFail {
		return nil, api.ErrClash
	}
	x.given, e = record.Given(p, pass)
	return &x, e
}

// state returns a state of a log.
func state(r *record.Player, n int) api.State {
	r.Goto(n)
	return r.State()
}

// outcome returns the outcome of a log.
func outcome(r *record.Player) api.Outcome {
	o := state(r, r.Len()).Outcome
	if o.End == api.EnNone {
		o.End = api.EnFuel
	}
	return o
}

// steps returns up to which state both runs can be compared.
func (x *contrast) steps() int { return min(x.pass.Len(), x.fail.Len()) }

// isolate finds the places that decide at a state.
func (x *contrast) isolate(n int) (base, places []api.Place, found bool) {
	if n > x.steps() {
		return nil, nil, false
	}
	a, b := state(x.pass, n), state(x.fail, n)
	l, alike := Differences(a, b)
	if !alike || len(l) == 0 { // without differences the search has no set that fails
		return nil, nil, false
	}
	var answers []api.Verdict
	for {
		q, e := reduce.Difference(len(l), answers)
		switch {
		case e != api.OK || !q.Done && len(answers) == api.MaxAsks:
			return nil, nil, false
		case q.Done:
			return elements(l, q.Pass), elements(l, without(q.Kept, q.Pass)), true
		}
		answers = append(answers, x.verdict(mixed(a, b, elements(l, q.Ask))))
	}
}

// verdict returns the verdict on a mixed state.
func (x *contrast) verdict(s api.State) api.Verdict {
	m, e := machine.Resume(x.program, x.given, s)
	if e != api.OK {
		return api.VeUnknown
	}
	o, e := m.Finish(x.fuel)
	if e != api.OK {
		return api.VeUnknown
	}
	return Verdict(o, x.passed, x.failed)
}

// elements returns the elements of a list at some indexes.
func elements(l []api.Place, at []int) []api.Place {
	var out []api.Place
	for _, i := range at {
		out = append(out, l[i])
	}
	return out
}

// without returns the elements of a list that are not in another one.
func without(l, other []int) []int {
	return slices.DeleteFunc(slices.Clone(l), func(n int) bool { return slices.Contains(other, n) })
}

// Isolate finds the places that decide at a state of two runs: P8.4.
func Isolate(p api.Program, pass, fail api.Log, n, fuel int) (base, places []api.Place, found bool, e api.Errno) {
	x, e := contrasted(p, pass, fail, fuel, n >= 0)
	if e != api.OK {
		return nil, nil, false, e
	}
	base, places, found = x.isolate(n)
	return base, places, found, api.OK
}

// Transitions finds the places that decide, state by state: P8.4.
func Transitions(p api.Program, pass, fail api.Log, every, fuel int) ([]api.Cause, api.Errno) {
	x, e := contrasted(p, pass, fail, fuel, 1 <= every && every <= api.MaxSteps)
	if e != api.OK {
		return nil, e
	}
	var l []api.Cause
	for n := 0; n <= x.steps(); n += every {
		_, places, found := x.isolate(n)
		if !found || len(l) > 0 && slices.Equal(places, l[len(l)-1].Places) {
			continue
		}
		l = append(l, api.Cause{State: n, Places: places})
	}
	return l, api.OK
}
