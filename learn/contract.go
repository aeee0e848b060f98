package learn

import (
	"slices"

	"sleuth/api"
	"sleuth/lang"
	"sleuth/machine"
)

// guard is a contract as runs are held against it.
type guard struct {
	at        int
	registers []int // of its names
	claims    []claim
}

// guardOf returns the guard of a contract: the errors of CheckContract.
func guardOf(p api.Program, c api.Contract) (guard, api.Errno) {
	v, e := viewOf(p, c.At)
	if e != api.OK {
		return guard{}, e
	}
	g := guard{at: c.At}
	if hasTwice(c.Names) {
		return guard{}, api.ErrTwice
	}
	for _, s := range c.Names {
		i := slices.Index(v.names, s)
		if i < 0 {
			return guard{}, api.ErrName
		}
		g.registers = append(g.registers, v.registers[i])
	}
	if len(c.Claims) > api.MaxClaims {
		return guard{}, api.ErrLimit
	}
	for _, x := range c.Claims {
		claim, e := claimOf(x, len(c.Names)) // ErrArg without names
		if e != api.OK {
			return guard{}, e
		}
		g.claims = append(g.claims, claim)
	}
	return g, api.OK
}

func hasTwice(names []string) bool {
	seen := map[string]bool{}
	for _, s := range names {
		if seen[s] {
			return true
		}
		seen[s] = true
	}
	return false
}

// broken returns the first claim that is not true of the registers of a frame, or -1.
func (g guard) broken(registers []api.Value) int {
	s := sampleOf(registers, g.registers)
	return slices.IndexFunc(g.claims, func(c claim) bool {
		a, b := c.variables()
		return !s.plain[a] || !s.plain[b] || !c.holds(s.row)
	})
}

// CheckContract returns the first error of a contract: P8.3.
func CheckContract(p api.Program, c api.Contract) api.Errno {
	_, e := guardOf(p, c)
	return e
}

// guardsOf returns the guards of contracts: the errors of Keeps that come ahead of the run.
func guardsOf(p api.Program, l []api.Contract) ([]guard, api.Errno) {
	if e := lang.Check(p); e != api.OK {
		return nil, e
	}
	if len(l) > api.MaxContracts {
		return nil, api.ErrLimit
	}
	var guards []guard
	for _, c := range l {
		g, e := guardOf(p, c)
		if e != api.OK {
			return nil, e
		}
		guards = append(guards, g)
	}
	return guards, api.OK
}

// Keeps runs a program and returns the first breach of its contracts: P8.3.
func Keeps(p api.Program, l []api.Contract, g api.Given, fuel int) (b api.Breach, broken bool, x api.Outcome, e api.Errno) {
	if !isFuel(fuel) {
		return api.Breach{}, false, api.Outcome{}, api.ErrArg
	}
	guards, e := guardsOf(p, l)
	if e != api.OK {
		return api.Breach{}, false, api.Outcome{}, e
	}
	m, e := machine.New(p, g)
	if e != api.OK {
		return api.Breach{}, false, api.Outcome{}, e
	}
	b, broken = breach(m, guards, fuel)
	// No run has more steps than its fuel, those up to the breach included.
	x, e = m.Finish(fuel - m.State().Outcome.Steps)
	return b, broken, x, e
}

// breach lets a machine at the beginning of a run go on up to the first breach of some guards, or for so many steps.
func breach(m *machine.Machine, guards []guard, fuel int) (api.Breach, bool) {
	var lines []int
	for _, g := range guards {
		lines = append(lines, g.at)
	}
	for at := range beginnings(m, fuel, lines...) {
		for contract, g := range guards {
			if g.at != at.line {
				continue
			}
			if claim := g.broken(at.registers); claim >= 0 {
				return api.Breach{Step: at.step, Contract: contract, Claim: claim}, true
			}
		}
	}
	return api.Breach{}, false
}

// Oracle returns the verdict of contracts on a run: P8.3.
func Oracle(p api.Program, l []api.Contract, g api.Given, fuel int) (api.Verdict, api.Errno) {
	_, broken, x, e := Keeps(p, l, g, fuel)
	switch {
	case e != api.OK:
		return api.VeNone, e
	case broken:
		return api.VeFail, api.OK
	case x.End == api.EnDone:
		return api.VePass, api.OK
	}
	return api.VeUnknown, api.OK
}
