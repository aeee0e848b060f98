package session_test

import (
	"fmt"
	"math/big"
	"regexp"
	"slices"
	"strings"

	"sleuth/api"
	"sleuth/lang"
	"sleuth/learn"
	"sleuth/rank"
	"sleuth/record"
	"sleuth/reduce"
	"sleuth/repair"
	"sleuth/session"
	"sleuth/trace"
)

// form is a row of the chapter's table: what a line matches, and what its letters stand for.
type form struct {
	line *regexp.Regexp
	want string
}

// The letters: Q a new name, P a program, R a run, N a count, I a list of numbers, T a list of pairs of counts, X a text.
var forms = []form{
	row("program Q X"), row("test I ; I"), row("run Q P N I"), row("follow Q P N I ; T"), row("why R N"), row("slice R N"), row("race R"), row("shrink Q R N"),
	row("rank P N N"), row("diagnose P N N N I"), row("learn P N N"), row("cause R R N N"), row("repair Q P N N I"), row("verify"),
}

func row(text string) form {
	pattern := ""
	for _, w := range strings.Fields(text) {
		pattern += map[string]string{
			"Q": " ([a-z][A-Za-z0-9_]{0,15})", "P": " ([a-z][A-Za-z0-9_]{0,15})", "R": " ([a-z][A-Za-z0-9_]{0,15})",
			"N": " (0|[1-9][0-9]*)", "I": "((?: (?:0|-?[1-9][0-9]*))*)", "T": "((?: (?:0|[1-9][0-9]*) (?:0|[1-9][0-9]*))*)", "X": " (.+)",
		}[w]
		if strings.ToUpper(w) != w || w == ";" {
			pattern += " " + w
		}
	}
	letters := regexp.MustCompile("[^A-Z]").ReplaceAllString(text, "")
	return form{regexp.MustCompile("(?s)^" + strings.TrimSpace(pattern) + "$"), letters}
}

// model is a session as the chapter tells it: all evidence, all names, and what they stand for.
type model struct {
	names     []string
	programs  map[string]api.Program
	of        map[string]string // the program of each run
	logs      map[string]api.Log
	outcomes  map[string]api.Outcome
	tests     []api.Test
	contracts []api.Contract
	about     []string // the program of each contract
	evidence  []api.Evidence
}

func newModel() *model {
	return &model{programs: map[string]api.Program{}, of: map[string]string{}, logs: map[string]api.Log{}, outcomes: map[string]api.Outcome{}}
}

// words is a line that is of a form: its names, counts and lists, in order.
type words struct {
	first  string
	names  []string
	counts []int
	lists  [][]int64
	text   string
}

// read returns the words of a line, and the new name, or false if it is of no form.
func (m *model) read(line string) (w words, letters string, ok bool) {
	for _, f := range forms {
		l := f.line.FindStringSubmatch(line)
		if l == nil {
			continue
		}
		w.first, _, _ = strings.Cut(line, " ")
		for i, letter := range f.want {
			switch s := l[i+1]; letter {
			case 'Q', 'P', 'R':
				if !lang.Name(s) {
					return words{}, "", false
				}
				w.names = append(w.names, s)
			case 'N', 'I', 'T':
				numbers, fits := within(s, letter != 'I')
				if !fits {
					return words{}, "", false
				}
				if letter == 'N' {
					w.counts = append(w.counts, int(numbers[0]))
				} else {
					w.lists = append(w.lists, numbers)
				}
			case 'X':
				w.text = s
			}
		}
		return w, f.want, true
	}
	return words{}, "", false
}

// within returns the numbers in a text, and whether all of them are in their range.
func within(text string, counts bool) (l []int64, fits bool) {
	for _, s := range strings.Fields(text) {
		n, _ := new(big.Int).SetString(s, 10)
		if !n.IsInt64() || counts && n.Int64() > 2147483647 {
			return nil, false
		}
		l = append(l, n.Int64())
	}
	return l, true
}

// check returns the errors of a line that come ahead of those of what it does.
func (m *model) check(w words, letters string) api.Errno {
	names := regexp.MustCompile("[^QPR]").ReplaceAllString(letters, "")
	for i, letter := range names {
		if letter == 'Q' && slices.Contains(m.names, w.names[i]) {
			return api.ErrTwice
		}
	}
	for i, letter := range names {
		_, program := m.programs[w.names[i]]
		_, run := m.logs[w.names[i]]
		if letter == 'P' && !program || letter == 'R' && !run {
			return api.ErrNone
		}
	}
	if strings.Contains(letters, "Q") && len(m.names) == 32 || w.first == "test" && len(m.tests) == 64 {
		return api.ErrLimit
	}
	return api.OK
}

// do does a line. The evidence that an answer cites is the last one then.
func (m *model) do(line string) (string, api.Errno) {
	if len(line) > 65536 {
		return "", api.ErrLimit
	}
	if line == "" || strings.HasPrefix(line, "#") {
		return "", api.OK
	}
	w, letters, ok := m.read(line)
	if !ok {
		return "", api.ErrForm
	}
	if e := m.check(w, letters); e != api.OK {
		return "", e
	}
	switch w.first {
	case "program", "test", "verify":
		return m.simple(w)
	case "run", "follow", "shrink":
		return m.record(w)
	case "why", "slice", "race":
		return m.explain(w)
	case "rank", "diagnose", "learn":
		return m.judge(w)
	case "cause":
		return m.cause(w)
	}
	return m.repair(w)
}

func (m *model) simple(w words) (string, api.Errno) {
	switch w.first {
	case "test":
		m.tests = append(m.tests, api.Test{Given: api.Given{Inputs: w.lists[0]}, Out: w.lists[1]})
		return fmt.Sprintf("test %d", len(m.tests)), api.OK
	case "verify":
		return fmt.Sprintf("verified %d", len(m.evidence)), api.OK // P10.3
	}
	p, _, e := lang.Parse(w.text)
	if e == api.OK {
		e = lang.Check(p)
	}
	d := uint64(0)
	if e == api.OK {
		d, e = lang.Digest(p)
	}
	if e != api.OK {
		return "", e
	}
	m.name(w.names[0], p)
	return fmt.Sprintf("program %s: %d statements, digest %016x", w.names[0], lang.Count(p), d), api.OK
}

func (m *model) name(name string, p api.Program) {
	m.names = append(m.names, name)
	m.programs[name] = p
}

// cite keeps an evidence of a program, and returns [X].
func (m *model) cite(program string, x api.Evidence) string {
	x.Program, _ = lang.Print(m.programs[program])
	m.evidence = append(m.evidence, x)
	return fmt.Sprintf(" [%016x]", session.Digest(x))
}

func outcomeNumbers(o api.Outcome) []int64 {
	return append([]int64{int64(o.End), int64(o.Fault), int64(o.Line), int64(o.Steps)}, o.Out...)
}

// listed writes numbers, each behind a blank.
func listed[T int | int64](l []T) string {
	s := ""
	for _, n := range l {
		s += fmt.Sprint(" ", n)
	}
	return s
}

func outcomeText(o api.Outcome) string {
	return fmt.Sprintf("end %d fault %d line %d steps %d out%s", o.End, o.Fault, o.Line, o.Steps, listed(o.Out))
}

// keep keeps a run.
func (m *model) keep(name, of string, l api.Log, o api.Outcome) {
	m.names = append(m.names, name)
	m.of[name], m.logs[name], m.outcomes[name] = of, l, o
}

func (m *model) record(w words) (string, api.Errno) {
	name, of, fuel := w.names[0], w.names[1], w.counts[0]
	if w.first == "shrink" {
		return m.shrink(name, of, fuel)
	}
	g := api.Given{Inputs: w.lists[0]}
	l, o, e := record.Record(m.programs[of], g, fuel)
	if w.first == "follow" {
		l, o, e = record.Follow(m.programs[of], g, pairs(w.lists[1]), fuel)
	}
	if e != api.OK {
		return "", e
	}
	m.keep(name, of, l, o)
	x := api.Evidence{Kind: api.PrRun, Logs: []api.Log{l}, Numbers: outcomeNumbers(o)}
	return "run " + name + ": " + outcomeText(o) + m.cite(of, x), api.OK
}

func pairs(l []int64) []api.Pick {
	var picks []api.Pick
	for i := 0; i < len(l); i += 2 {
		picks = append(picks, api.Pick{Thread: int(l[i]), Count: int(l[i+1])})
	}
	return picks
}

func (m *model) shrink(name, run string, fuel int) (string, api.Errno) {
	if fuel > 65536 {
		return "", api.ErrArg
	}
	l := m.logs[run]
	g := api.Given{Inputs: l.Inputs, Clocks: l.Clocks}
	var answers []api.Verdict
	q, e := reduce.Schedule(l.Picks, answers)
	for e == api.OK && !q.Done {
		if len(answers) == 4096 {
			return "", api.ErrFuel
		}
		_, o, _ := record.Follow(m.programs[m.of[run]], g, q.Picks, fuel)
		answers = append(answers, learn.Verdict(o, api.Outcome{}, m.outcomes[run]))
		q, e = reduce.Schedule(l.Picks, answers)
	}
	if e != api.OK {
		return "", e
	}
	s, o, _ := record.Follow(m.programs[m.of[run]], g, q.Picks, fuel)
	m.keep(name, m.of[run], s, o)
	x := api.Evidence{Kind: api.PrSchedule, Logs: []api.Log{l}, Picks: q.Picks, Numbers: []int64{int64(fuel)}}
	return fmt.Sprintf("shrink %s: picks %d %s", name, len(q.Picks), outcomeText(o)) + m.cite(m.of[run], x), api.OK
}

func (m *model) explain(w words) (string, api.Errno) {
	name := w.names[0]
	of := m.of[name]
	t, e := trace.Of(m.programs[of], m.logs[name])
	x := api.Evidence{Logs: []api.Log{m.logs[name]}}
	if w.first == "race" {
		for _, r := range t.Races() {
			x.Kind, x.Numbers = api.PrRace, []int64{int64(r.Place.A), int64(r.Place.B), int64(r.First), int64(r.Second)}
			return fmt.Sprintf("race %s: object %d cell %d steps %d %d", name, r.Place.A, r.Place.B, r.First, r.Second) + m.cite(of, x), e
		}
		return "race " + name + ": none", e
	}
	k := w.counts[0]
	out := api.Place{Kind: api.PlOut, A: k}
	v, printed := t.Value(t.Len(), out)
	if !printed {
		return "", api.ErrNone
	}
	if w.first == "why" {
		x.Kind, x.Numbers = api.PrValue, []int64{int64(k), v.N}
		x.Set, e = t.Origin(t.Len(), out)
		return fmt.Sprintf("why %s %d: value %d steps%s", name, k, v.N, listed(x.Set)) + m.cite(of, x), e
	}
	x.Kind, x.Numbers = api.PrSlice, []int64{int64(k)}
	h := t.History(out)
	x.Set, e = t.Slice(h[len(h)-1], trace.Full)
	return fmt.Sprintf("slice %s %d: statements%s steps %d", name, k, listed(t.Statements(x.Set)), len(x.Set)) + m.cite(of, x), e
}

// ranked returns the standings of all statements of a program.
func (m *model) ranked(of string, f, fuel int) ([]api.Standing, api.Errno) {
	if f > 14 {
		f = 0
	}
	s, e := rank.Cover(m.programs[of], m.tests, api.BaStatement, fuel)
	if e != api.OK {
		return nil, e
	}
	return rank.Rank(s, api.Formula(f))
}

func (m *model) judge(w words) (string, api.Errno) {
	name := w.names[0]
	switch w.first {
	case "rank":
		l, e := m.ranked(name, w.counts[0], w.counts[1])
		if e != api.OK {
			return "", e
		}
		s := "rank " + name + ":"
		for _, x := range l {
			s += fmt.Sprintf(" %d:%d:%d", x.Part, x.Best, x.Worst)
		}
		return s, api.OK
	case "diagnose":
		return m.diagnose(name, w.counts[0], w.counts[1], w.counts[2], w.lists[0])
	}
	return m.learn(name, w.counts[0], w.counts[1])
}

func (m *model) diagnose(name string, fuel, choices, size int, domain []int64) (string, api.Errno) {
	sets, e := rank.Diagnose(m.programs[name], m.tests, domain, choices, fuel, size)
	if e != api.OK {
		return "", e
	}
	if len(sets) == 0 {
		return "diagnose " + name + ": none", api.OK
	}
	s := "diagnose " + name + ":"
	for _, l := range sets {
		s += " {" + strings.ReplaceAll(strings.Trim(fmt.Sprint(l), "[]"), " ", ",") + "}"
	}
	x := api.Evidence{Kind: api.PrDiagnosis, Tests: m.tests, Set: sets[0], Numbers: []int64{int64(fuel)}}
	x.Witness, _, _ = rank.Explain(m.programs[name], sets[0], m.tests, domain, choices, fuel)
	return s + m.cite(name, x), api.OK
}

func (m *model) learn(name string, n, fuel int) (string, api.Errno) {
	x := api.Evidence{Kind: api.PrContract, Numbers: []int64{int64(fuel)}}
	var given []api.Given
	for _, t := range m.tests {
		met, e := rank.Meets(m.programs[name], t, fuel)
		if e != api.OK {
			return "", e
		}
		if met {
			given = append(given, t.Given)
			x.Tests = append(x.Tests, api.Test{Given: t.Given})
		}
	}
	c, e := learn.Learn(m.programs[name], n, given, fuel, 1)
	if e != api.OK {
		return "", e
	}
	if len(m.contractsOf(name)) == 16 {
		return "", api.ErrLimit
	}
	m.contracts, m.about = append(m.contracts, c), append(m.about, name)
	x.Contracts = []api.Contract{c}
	var claims []string
	for _, y := range c.Claims {
		s, _ := learn.Write(y, c.Names)
		claims = append(claims, s)
	}
	if len(claims) == 0 {
		claims = []string{"nothing"}
	}
	return fmt.Sprintf("learn %s %d: %s", name, n, strings.Join(claims, " & ")) + m.cite(name, x), api.OK
}

func (m *model) contractsOf(name string) []api.Contract {
	var l []api.Contract
	for i, c := range m.contracts {
		if m.about[i] == name {
			l = append(l, c)
		}
	}
	return l
}

func (m *model) cause(w words) (string, api.Errno) {
	r, s, n, fuel := w.names[0], w.names[1], w.counts[0], w.counts[1]
	if m.of[r] != m.of[s] {
		return "", api.ErrArg
	}
	base, places, found, e := learn.Isolate(m.programs[m.of[r]], m.logs[r], m.logs[s], n, fuel)
	if e != api.OK {
		return "", e
	}
	a := fmt.Sprintf("cause %s %s %d:", r, s, n)
	if !found {
		return a + " none", api.OK
	}
	for i, q := range places {
		if i > 0 {
			a += ","
		}
		a += fmt.Sprintf(" %s %d %d", map[api.PlaceKind]string{api.PlReg: "reg", api.PlCell: "cell"}[q.Kind], q.A, q.B)
	}
	x := api.Evidence{Kind: api.PrCause, Logs: []api.Log{m.logs[r], m.logs[s]}, Places: base, Rest: places, Numbers: []int64{int64(n), int64(fuel)}}
	return a + m.cite(m.of[r], x), api.OK
}

func (m *model) repair(w words) (string, api.Errno) {
	name, of, fuel, inputs, domain := w.names[0], w.names[1], w.counts[0], w.counts[1], w.lists[0]
	l, e := m.ranked(of, int(api.FoOchiai), fuel)
	if e != api.OK {
		return "", e
	}
	var at []int
	for _, x := range l {
		at = append(at, x.Part)
	}
	s := api.Suite{Tests: m.tests, Contracts: m.contractsOf(of), Domain: domain, Inputs: inputs, Fuel: fuel}
	found, e := repair.Repair(m.programs[of], s, at, 1)
	if e != api.OK {
		return "", e
	}
	if len(found) == 0 {
		return "repair " + name + ": none", api.OK
	}
	q, _ := repair.Apply(m.programs[of], found[0].Patch)
	x := api.Evidence{Kind: api.PrRepair, Tests: s.Tests, Contracts: s.Contracts, Patch: found[0].Patch, Set: found[0].Judgement.Changed}
	x.Numbers = append([]int64{int64(fuel), int64(inputs)}, domain...)
	if x.Other, e = lang.Print(q); e != api.OK {
		return "", e
	}
	m.name(name, q)
	return fmt.Sprintf("repair %s: statement %d changed %d", name, found[0].Patch.Edits[0].At, len(x.Set)) + m.cite(of, x), api.OK
}
