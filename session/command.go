package session

import (
	"slices"
	"strconv"

	"sleuth/api"
	"sleuth/lang"
	"sleuth/record"
)

// commands returns what is done by a line, by its first word. Each of them changes nothing before its last error is behind it: P10.6.
func commands() map[string]func(*Session, *line) (string, api.Errno) {
	return map[string]func(*Session, *line) (string, api.Errno){
		"program":  (*Session).program,
		"test":     (*Session).test,
		"run":      (*Session).run,
		"follow":   (*Session).follow,
		"why":      (*Session).why,
		"slice":    (*Session).slice,
		"race":     (*Session).race,
		"shrink":   (*Session).shrink,
		"rank":     (*Session).rank,
		"diagnose": (*Session).diagnose,
		"learn":    (*Session).learn,
		"cause":    (*Session).cause,
		"repair":   (*Session).repair,
		"verify":   (*Session).verify,
	}
}

func (s *Session) program(l *line) (string, api.Errno) {
	name, text := l.newName(), l.text()
	l.end()
	p, _, e := lang.Parse(text)
	if e == api.OK {
		e = lang.Check(p)
	}
	if e != api.OK {
		return "", e
	}
	digest, e := lang.Digest(p)
	if e != api.OK {
		return "", e
	}
	s.keepProgram(name, p)
	return "program " + name + ": " + strconv.Itoa(lang.Count(p)) + " statements, digest " + hexadecimal(digest), api.OK
}

// keepProgram gives a program that has a written form a name.
func (s *Session) keepProgram(name string, p api.Program) {
	text, _ := lang.Print(p)
	s.programs[name] = source{name: name, program: p, text: text}
	s.names = append(s.names, name)
}

func (s *Session) test(l *line) (string, api.Errno) {
	inputs := l.numbers()
	l.mark()
	out := l.numbers()
	l.end()
	if len(s.tests) >= api.MaxTests {
		return "", api.ErrLimit
	}
	s.tests = append(s.tests, api.Test{Given: api.Given{Inputs: inputs}, Out: out})
	return "test " + strconv.Itoa(len(s.tests)), api.OK
}

func (s *Session) run(l *line) (string, api.Errno) {
	name, p, fuel, inputs := l.newName(), l.program(), l.count(), l.numbers()
	l.end()
	log, o, e := record.Record(p.program, api.Given{Inputs: inputs}, fuel)
	if e != api.OK {
		return "", e
	}
	return s.keepRun(recording{name, p, log, o}), api.OK
}

func (s *Session) follow(l *line) (string, api.Errno) {
	name, p, fuel, inputs := l.newName(), l.program(), l.count(), l.numbers()
	l.mark()
	picks := l.picks()
	l.end()
	log, o, e := record.Follow(p.program, api.Given{Inputs: inputs}, picks, fuel)
	if e != api.OK {
		return "", e
	}
	return s.keepRun(recording{name, p, log, o}), api.OK
}

// keepRun gives a run its name, and returns the answer.
func (s *Session) keepRun(r recording) string {
	s.nameRun(r)
	x := api.Evidence{Kind: api.PrRun, Program: r.of.text, Logs: []api.Log{r.log}, Numbers: outcomeNumbers(r.outcome)}
	return "run " + r.name + ": " + outcomeText(r.outcome) + s.cite(x)
}

func (s *Session) nameRun(r recording) {
	s.runs[r.name] = r
	s.names = append(s.names, r.name)
}

// cite puts an evidence at the end of the list, and returns how an answer cites it.
func (s *Session) cite(x api.Evidence) string {
	s.evidence = append(s.evidence, x)
	return " [" + hexadecimal(Digest(x)) + "]"
}

func (s *Session) verify(l *line) (string, api.Errno) {
	l.end()
	refuted := slices.IndexFunc(s.evidence, func(x api.Evidence) bool { return Verify(x) != api.OK })
	if refuted >= 0 {
		return "refuted " + strconv.Itoa(refuted), api.OK
	}
	return "verified " + strconv.Itoa(len(s.evidence)), api.OK
}
