package session

import (
	"slices"
	"strconv"

	"sleuth/api"
	"sleuth/learn"
	"sleuth/record"
	"sleuth/reduce"
	"sleuth/trace"
)

// printed returns the trace of a run and the place of a number of its output: ErrNone if there is no such number.
func printed(r recording, k int) (*trace.Trace, api.Place, api.Errno) {
	if k >= len(r.outcome.Out) {
		return nil, api.Place{}, api.ErrNone
	}
	t, e := trace.Of(r.of.program, r.log)
	return t, output(k), e
}

func (s *Session) why(l *line) (string, api.Errno) {
	r, k := l.run(), l.count()
	l.end()
	t, place, e := printed(r, k)
	if e != api.OK {
		return "", e
	}
	way, e := t.Origin(t.Len(), place)
	if e != api.OK {
		return "", e
	}
	value := r.outcome.Out[k]
	x := api.Evidence{Kind: api.PrValue, Program: r.of.text, Logs: []api.Log{r.log}, Set: way, Numbers: []int64{int64(k), value}}
	return "why " + r.name + spaced([]int{k}) + ": value" + spaced([]int64{value}) + " steps" + spaced(way) + s.cite(x), api.OK
}

func (s *Session) slice(l *line) (string, api.Errno) {
	r, k := l.run(), l.count()
	l.end()
	t, place, e := printed(r, k)
	if e != api.OK {
		return "", e
	}
	steps, e := t.Slice(t.Writer(t.Len(), place), trace.Full)
	if e != api.OK {
		return "", e
	}
	x := api.Evidence{Kind: api.PrSlice, Program: r.of.text, Logs: []api.Log{r.log}, Set: steps, Numbers: []int64{int64(k)}}
	statements := spaced(t.Statements(steps))
	return "slice " + r.name + spaced([]int{k}) + ": statements" + statements + " steps " + strconv.Itoa(len(steps)) + s.cite(x), api.OK
}

func (s *Session) race(l *line) (string, api.Errno) {
	r := l.run()
	l.end()
	t, e := trace.Of(r.of.program, r.log)
	if e != api.OK {
		return "", e
	}
	races := t.Races()
	if len(races) == 0 {
		return "race " + r.name + ": none", api.OK
	}
	object, cell, steps := races[0].Place.A, races[0].Place.B, []int{races[0].First, races[0].Second}
	numbers := []int64{int64(object), int64(cell), int64(steps[0]), int64(steps[1])}
	x := api.Evidence{Kind: api.PrRace, Program: r.of.text, Logs: []api.Log{r.log}, Numbers: numbers}
	return "race " + r.name + ": object " + strconv.Itoa(object) + " cell " + strconv.Itoa(cell) + " steps" + spaced(steps) + s.cite(x), api.OK
}

// target is the outcome to which other schedules of a log's run are to come.
type target struct {
	program api.Program
	log     api.Log
	fuel    int
	outcome api.Outcome
}

// follow lets the threads of the run take turns by a schedule.
func (t target) follow(picks []api.Pick) (api.Log, api.Outcome, api.Errno) {
	return record.Follow(t.program, api.Given{Inputs: t.log.Inputs, Clocks: t.log.Clocks}, picks, t.fuel)
}

// verdict returns VeFail just if a schedule comes to the outcome.
func (t target) verdict(picks []api.Pick) (api.Verdict, api.Errno) {
	_, o, e := t.follow(picks)
	if e != api.OK {
		return api.VeNone, e
	}
	return learn.Verdict(o, api.Outcome{}, t.outcome), api.OK
}

// minimized returns the schedule of the log with minimized preemptions. A search goes through all answers again for each question; so it begins anew from each schedule that fails, which asks the same from there on as if it had gone on.
func (t target) minimized() ([]api.Pick, api.Errno) {
	picks := t.log.Picks
	var answers []api.Verdict
	told := map[string]api.Verdict{} // by the bytes of the schedules that were asked
	for {
		q, e := reduce.Schedule(picks, answers)
		if e != api.OK || q.Done {
			return q.Picks, e
		}
		key := string(list(nil, q.Picks))
		v, asked := told[key]
		if !asked && len(told) == api.MaxAsks {
			return nil, api.ErrFuel
		}
		if !asked {
			if v, e = t.verdict(q.Picks); e != api.OK {
				return nil, e
			}
			told[key] = v
		}
		answers = append(answers, v)
		if v == api.VeFail {
			picks, answers = q.Picks, []api.Verdict{v}
		}
	}
}

func (s *Session) shrink(l *line) (string, api.Errno) {
	name, r, fuel := l.newName(), l.run(), l.count()
	l.end()
	if fuel > api.MaxSteps {
		return "", api.ErrArg
	}
	t := target{r.of.program, r.log, fuel, r.outcome}
	picks, e := t.minimized()
	if e != api.OK {
		return "", e
	}
	log, o, e := t.follow(picks)
	if e != api.OK {
		return "", e
	}
	s.nameRun(recording{name, r.of, log, o})
	x := api.Evidence{Kind: api.PrSchedule, Program: r.of.text, Logs: []api.Log{r.log}, Picks: slices.Clone(picks), Numbers: []int64{int64(fuel)}}
	return "shrink " + name + ": picks " + strconv.Itoa(len(picks)) + blank + outcomeText(o) + s.cite(x), api.OK
}
