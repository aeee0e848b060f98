package session

import (
	"slices"
	"strconv"
	"strings"

	"sleuth/api"
	"sleuth/lang"
	"sleuth/learn"
	"sleuth/rank"
	"sleuth/repair"
)

// standings returns how the statements of a program rank by the tests.
func (s *Session) standings(p source, f api.Formula, fuel int) ([]api.Standing, api.Errno) {
	covered, e := rank.Cover(p.program, s.tests, api.BaStatement, fuel)
	if e != api.OK {
		return nil, e
	}
	return rank.Rank(covered, f)
}

// formula returns the formula with a number.
func formula(n int) api.Formula {
	if n > int(api.FoZoltar) {
		return api.FoNone
	}
	return api.Formula(n)
}

func (s *Session) rank(l *line) (string, api.Errno) {
	p, f, fuel := l.program(), formula(l.count()), l.count()
	l.end()
	standings, e := s.standings(p, f, fuel)
	if e != api.OK {
		return "", e
	}
	answer := "rank " + p.name + ":"
	for _, x := range standings {
		answer += blank + strconv.Itoa(x.Part) + ":" + strconv.Itoa(x.Best) + ":" + strconv.Itoa(x.Worst)
	}
	return answer, api.OK
}

func (s *Session) diagnose(l *line) (string, api.Errno) {
	p, fuel, choices, size, domain := l.program(), l.count(), l.count(), l.count(), l.numbers()
	l.end()
	sets, e := rank.Diagnose(p.program, s.tests, domain, choices, fuel, size)
	if e != api.OK {
		return "", e
	}
	answer := "diagnose " + p.name + ":"
	if len(sets) == 0 {
		return answer + " none", api.OK
	}
	witness, _, e := rank.Explain(p.program, sets[0], s.tests, domain, choices, fuel)
	if e != api.OK {
		return "", e
	}
	for _, set := range sets {
		answer += " {" + commaed(set) + "}"
	}
	x := api.Evidence{Kind: api.PrDiagnosis, Program: p.text, Tests: s.tests, Set: sets[0], Witness: witness, Numbers: []int64{int64(fuel)}}
	return answer + s.cite(x), api.OK
}

// commaed returns numbers with a comma between two of them.
func commaed(l []int) string {
	return strings.ReplaceAll(strings.TrimPrefix(spaced(l), blank), blank, ",")
}

// plans returns the tests that a program meets, without what they are to print.
func (s *Session) plans(p source, fuel int) ([]api.Test, api.Errno) {
	var plans []api.Test
	for _, t := range s.tests {
		met, e := rank.Meets(p.program, t, fuel)
		if e != api.OK {
			return nil, e
		}
		if met {
			plans = append(plans, api.Test{Given: t.Given})
		}
	}
	return plans, api.OK
}

func (s *Session) learn(l *line) (string, api.Errno) {
	p, statement, fuel := l.program(), l.count(), l.count()
	l.end()
	plans, e := s.plans(p, fuel)
	if e != api.OK {
		return "", e
	}
	var given []api.Given
	for _, t := range plans {
		given = append(given, t.Given)
	}
	c, e := learn.Learn(p.program, statement, given, fuel, 1)
	if e == api.OK && len(s.contracts[p.name]) >= api.MaxContracts {
		e = api.ErrLimit
	}
	if e != api.OK {
		return "", e
	}
	claims, e := claimsText(c)
	if e != api.OK {
		return "", e
	}
	s.contracts[p.name] = append(s.contracts[p.name], c)
	x := api.Evidence{Kind: api.PrContract, Program: p.text, Tests: plans, Contracts: []api.Contract{c}, Numbers: []int64{int64(fuel)}}
	return "learn " + p.name + spaced([]int{statement}) + ":" + claims + s.cite(x), api.OK
}

// claimsText returns what a contract claims, each claim after a blank.
func claimsText(c api.Contract) (string, api.Errno) {
	var claims []string
	for _, x := range c.Claims {
		text, e := learn.Write(x, c.Names)
		if e != api.OK {
			return "", e
		}
		claims = append(claims, blank+text)
	}
	if len(claims) == 0 {
		return " nothing", api.OK
	}
	return strings.Join(claims, " &"), api.OK
}

func (s *Session) cause(l *line) (string, api.Errno) {
	pass, fail, n, fuel := l.run(), l.run(), l.count(), l.count()
	l.end()
	if pass.of.name != fail.of.name {
		return "", api.ErrArg
	}
	base, places, found, e := learn.Isolate(pass.of.program, pass.log, fail.log, n, fuel)
	if e != api.OK {
		return "", e
	}
	answer := "cause " + pass.name + blank + fail.name + spaced([]int{n}) + ":"
	if !found {
		return answer + " none", api.OK
	}
	x := api.Evidence{
		Kind: api.PrCause, Program: pass.of.text, Logs: []api.Log{pass.log, fail.log},
		Places: base, Rest: places, Numbers: []int64{int64(n), int64(fuel)},
	}
	return answer + placesText(places) + s.cite(x), api.OK
}

// placesText returns registers and cells, each after a blank.
func placesText(l []api.Place) string {
	var places []string
	for _, q := range l {
		kind := " reg"
		if q.Kind == api.PlCell {
			kind = " cell"
		}
		places = append(places, kind+spaced([]int{q.A, q.B}))
	}
	return strings.Join(places, ",")
}

func (s *Session) repair(l *line) (string, api.Errno) {
	name, p, fuel, inputs, domain := l.newName(), l.program(), l.count(), l.count(), l.numbers()
	l.end()
	standings, e := s.standings(p, api.FoOchiai, fuel)
	if e != api.OK {
		return "", e
	}
	var at []int
	for _, x := range standings {
		at = append(at, x.Part)
	}
	suite := api.Suite{Tests: s.tests, Contracts: slices.Clone(s.contracts[p.name]), Domain: domain, Inputs: inputs, Fuel: fuel}
	found, e := repair.Repair(p.program, suite, at, 1)
	if e != api.OK {
		return "", e
	}
	if len(found) == 0 {
		return "repair " + name + ": none", api.OK
	}
	return s.keepRepair(name, p, found[0], suite)
}

// keepRepair gives a repaired program its name, and returns the answer.
func (s *Session) keepRepair(name string, p source, r api.Repair, suite api.Suite) (string, api.Errno) {
	q, e := repair.Apply(p.program, r.Patch)
	if e != api.OK {
		return "", e
	}
	text, e := lang.Print(q)
	if e != api.OK {
		return "", e
	}
	s.keepProgram(name, q)
	changed := r.Judgement.Changed
	x := api.Evidence{
		Kind: api.PrRepair, Program: p.text, Other: text, Tests: suite.Tests, Contracts: suite.Contracts,
		Patch: r.Patch, Set: changed, Numbers: append([]int64{int64(suite.Fuel), int64(suite.Inputs)}, suite.Domain...),
	}
	return "repair " + name + ": statement " + strconv.Itoa(r.Patch.Edits[0].At) + " changed " + strconv.Itoa(len(changed)) + s.cite(x), api.OK
}
