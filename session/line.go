package session

import (
	"strconv"
	"strings"

	"sleuth/api"
	"sleuth/lang"
)

const (
	blank = " "
	mark  = ";" // between the lists of a line
)

// maxCount is the greatest count.
const maxCount = 1<<31 - 1

// refusal is the error with which a line is left.
type refusal struct {
	errno api.Errno
	rest  string // where the line was left
}

// Error tells what was refused.
func (r refusal) Error() string {
	return "error " + strconv.Itoa(int(r.errno)) + " ahead of " + strconv.Quote(r.rest)
}

// line is a line that is read word by word. What its names say of the session counts when all of it was read.
type line struct {
	session *Session
	rest    string
	more    bool   // whether there is a word to come, which may be empty
	given   string // the name that the line gives, if it gives one
	missing bool   // whether one of the other names is not there
}

// refuse leaves the line.
func (l *line) refuse(e api.Errno) { panic(refusal{errno: e, rest: l.rest}) }

// refuseIf leaves a line that is not of the form if something is so.
func (l *line) refuseIf(wrong bool) {
	if wrong {
		l.refuse(api.ErrForm)
	}
}

// word returns the next word.
func (l *line) word() string {
	l.refuseIf(!l.more)
	var w string
	w, l.rest, l.more = strings.Cut(l.rest, blank)
	return w
}

func (l *line) name() string {
	w := l.word()
	l.refuseIf(!lang.Name(w))
	return w
}

// newName returns the name that the line gives.
func (l *line) newName() string {
	l.given = l.name()
	return l.given
}

// program returns the program with the next name.
func (l *line) program() source {
	p, found := l.session.programs[l.name()]
	l.missing = l.missing || !found
	return p
}

// run returns the run with the next name.
func (l *line) run() recording {
	r, found := l.session.runs[l.name()]
	l.missing = l.missing || !found
	return r
}

func (l *line) number() int64 {
	w := l.word()
	n, err := strconv.ParseInt(w, 10, 64)
	l.refuseIf(err != nil || strconv.FormatInt(n, 10) != w) // leading zeros and signs that are not written
	return n
}

func (l *line) count() int {
	n := l.number()
	l.refuseIf(n < 0 || n > maxCount)
	return int(n)
}

// isMarked reports whether the next word is the mark.
func (l *line) isMarked() bool {
	w, _, _ := strings.Cut(l.rest, blank)
	return l.more && w == mark
}

// mark passes over the mark.
func (l *line) mark() { l.refuseIf(l.word() != mark) }

// numbers returns the numbers up to the mark, or the end.
func (l *line) numbers() []int64 {
	var numbers []int64
	for l.more && !l.isMarked() {
		numbers = append(numbers, l.number())
	}
	return numbers
}

// picks returns the pairs of counts up to the end.
func (l *line) picks() []api.Pick {
	var picks []api.Pick
	for l.more {
		thread := l.count()
		picks = append(picks, api.Pick{Thread: thread, Count: l.count()})
	}
	return picks
}

// text returns everything up to the end.
func (l *line) text() string {
	t := l.rest
	l.refuseIf(!l.more || t == "")
	l.rest, l.more = "", false
	return t
}

// end ends the reading of a line, and refuses one whose names do not fit the session.
func (l *line) end() {
	s := l.session
	l.refuseIf(l.more)
	switch {
	case l.given != "" && s.isName(l.given):
		l.refuse(api.ErrTwice)
	case l.missing:
		l.refuse(api.ErrNone)
	case l.given != "" && len(s.names) >= api.MaxNamed:
		l.refuse(api.ErrLimit)
	}
}

// isName reports whether a program or a run has a name.
func (s *Session) isName(name string) bool {
	_, program := s.programs[name]
	_, run := s.runs[name]
	return program || run
}
