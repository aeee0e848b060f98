package session

import (
	"math"

	"sleuth/api"
	"sleuth/lang"
)

// The fields of an evidence that only some kinds have.
const (
	inOther = iota
	inLogs
	inTests
	inContracts
	inPatch
	inPicks
	inSet
	inPlaces
	inRest
	inWitness
	inNumbers
	fields
)

// span is how many elements a field may have.
type span struct{ least, most int }

// spans returns how many elements each field of a kind of evidence may have, those that it does not have none.
func spans(kind api.Proof) [fields]span {
	one, two, four, many := span{1, 1}, span{2, 2}, span{4, 4}, span{0, math.MaxInt}
	return [...][fields]span{
		api.PrRun:       {inLogs: one, inNumbers: {4, math.MaxInt}},
		api.PrValue:     {inLogs: one, inSet: many, inNumbers: two},
		api.PrSlice:     {inLogs: one, inSet: many, inNumbers: one},
		api.PrRace:      {inLogs: one, inNumbers: four},
		api.PrSchedule:  {inLogs: one, inPicks: many, inNumbers: one},
		api.PrDiagnosis: {inTests: many, inSet: many, inWitness: many, inNumbers: one},
		api.PrContract:  {inTests: many, inContracts: one, inNumbers: one},
		api.PrCause:     {inLogs: two, inPlaces: many, inRest: many, inNumbers: two},
		api.PrRepair:    {inOther: many, inTests: many, inContracts: many, inPatch: many, inSet: many, inNumbers: {2, math.MaxInt}},
	}[kind]
}

// sizes returns how many elements each field of an evidence has.
func sizes(x api.Evidence) [fields]int {
	return [fields]int{
		inOther:     len(x.Other),
		inLogs:      len(x.Logs),
		inTests:     len(x.Tests),
		inContracts: len(x.Contracts),
		inPatch:     len(x.Patch.Edits),
		inPicks:     len(x.Picks),
		inSet:       len(x.Set),
		inPlaces:    len(x.Places),
		inRest:      len(x.Rest),
		inWitness:   len(x.Witness),
		inNumbers:   len(x.Numbers),
	}
}

// isFormed reports whether an evidence has the fields of its kind, and no others.
func isFormed(x api.Evidence) bool {
	allowed := spans(x.Kind)
	for i, n := range sizes(x) {
		if n < allowed[i].least || n > allowed[i].most {
			return false
		}
	}
	for _, t := range x.Tests {
		if x.Kind == api.PrContract && len(t.Out) > 0 { // no plan
			return false
		}
	}
	return true
}

// Verify tells whether an evidence holds, without searching: P10.1.
func Verify(x api.Evidence) api.Errno {
	if x.Kind == api.PrNone || x.Kind > api.PrRepair {
		return api.ErrArg
	}
	p, correct := programOf(x.Program)
	switch {
	case !correct:
		return api.ErrForm
	case !isFormed(x):
		return api.ErrArg
	}
	holds := [...]func(proof) bool{
		api.PrRun:       proof.isOfRun,
		api.PrValue:     proof.isOfValue,
		api.PrSlice:     proof.isOfSlice,
		api.PrRace:      proof.isOfRace,
		api.PrSchedule:  proof.isOfSchedule,
		api.PrDiagnosis: proof.isOfDiagnosis,
		api.PrContract:  proof.isOfContract,
		api.PrCause:     proof.isOfCause,
		api.PrRepair:    proof.isOfRepair,
	}
	if !holds[x.Kind](proof{x, p}) {
		return api.ErrState
	}
	return api.OK
}

// programOf returns the program with a written form, and whether there is such a program and it is correct.
func programOf(text string) (api.Program, bool) {
	p, _, e := lang.Parse(text)
	if e != api.OK || lang.Check(p) != api.OK {
		return api.Program{}, false
	}
	form, e := lang.Print(p)
	return p, e == api.OK && form == text
}
