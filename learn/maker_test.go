package learn_test

import (
	"fmt"
	"math/rand"
	"slices"
	"strings"
	"testing"

	"sleuth/api"
	"sleuth/lang"
)

// maker writes random programs whose functions all have a number and an object as parameters. A name tells what it holds: v a number, o an object, t a thread, g a closure of one parameter.
type maker struct {
	*rand.Rand
	last    int
	visible []string
	inner   bool // inside a closure
	odd     int  // of how many places one does something that may fault
}

// fresh returns a new name of a kind.
func (m *maker) fresh(kind string) string {
	m.last++
	return fmt.Sprint(kind, m.last)
}

// let declares a name, which is visible behind.
func (m *maker) let(kind, value string) string {
	name := m.fresh(kind)
	m.visible = append(m.visible, name)
	return fmt.Sprintf("let %s = %s; ", name, value)
}

// any returns a visible name of a kind, or a text if there is none.
func (m *maker) any(kind, otherwise string) string {
	var l []string
	for _, s := range m.visible {
		if strings.HasPrefix(s, kind) {
			l = append(l, s)
		}
	}
	if len(l) == 0 {
		return otherwise
	}
	return l[m.Intn(len(l))]
}

func (m *maker) text() string {
	m.odd = []int{8, 30, 1000}[m.Intn(3)]
	s := ""
	for i := range 2 {
		v, o := m.fresh("v"), m.fresh("o")
		m.visible = []string{v, o}
		s += fmt.Sprintf("fun f%d(%s, %s) { %s} ", i, v, o, m.body(2, 2+m.Intn(3)))
	}
	m.visible = nil
	start := m.let("o", "new(2)") + m.let("v", "input")
	return s + "fun main() { " + start + m.body(3, 4+m.Intn(5)) + "print " + m.number(1) + "; }"
}

func (m *maker) body(deep, count int) string {
	s := ""
	for range count {
		s += m.statement(deep)
	}
	return s
}

func (m *maker) statement(deep int) string {
	if m.Intn(m.odd) == 0 {
		return m.oddity()
	}
	if deep > 0 && m.Intn(5) < 3 {
		return m.nested(deep - 1)
	}
	switch m.Intn(10) {
	case 0:
		return m.let("v", m.number(2))
	case 1, 2:
		return fmt.Sprintf("%s = %s; ", m.any("v", "new(1)[0]"), m.number(2))
	case 3:
		return m.let("o", fmt.Sprintf("new(%d)", 1+m.Intn(2)))
	case 4, 5:
		return fmt.Sprintf("%s[0] = %s; ", m.any("o", "new(1)"), m.number(2))
	case 6:
		o := m.any("o", "new(1)")
		return fmt.Sprintf("lock %s; %s[0] = %s[0] + 1; unlock %s; ", o, o, o, o)
	case 7:
		return fmt.Sprintf("print %s; ", m.number(2))
	case 8:
		return fmt.Sprintf("assert %s < 9; ", m.number(1))
	}
	return fmt.Sprintf("%s; ", m.number(2))
}

// nested returns a statement that consists of others, or that leads to other frames or threads.
func (m *maker) nested(deep int) string {
	switch m.Intn(8) {
	case 0, 1:
		return fmt.Sprintf("if %s { %s} ", m.number(1), m.body(deep, 1+m.Intn(2)))
	case 2:
		return fmt.Sprintf("if %s { %s} else { %s} ", m.number(1), m.body(deep, m.Intn(3)), m.body(deep, 1+m.Intn(2)))
	case 3:
		s := m.let("v", fmt.Sprint(1+m.Intn(3)))
		v := m.visible[len(m.visible)-1]
		return s + fmt.Sprintf("while %s > 0 { %s = %s - 1; %s} ", v, v, v, m.body(deep, m.Intn(3)))
	case 4:
		return m.guarded(deep)
	case 5, 6:
		s := m.let("t", fmt.Sprintf("spawn f%d(%s, %s)", m.Intn(2), m.number(1), m.any("o", "new(1)")))
		if m.Intn(2) == 0 {
			s += fmt.Sprintf("join %s; ", m.visible[len(m.visible)-1])
		}
		return s
	}
	return m.closure(deep)
}

func (m *maker) guarded(deep int) string {
	body := m.body(deep, 1+m.Intn(2))
	if m.Intn(2) == 0 {
		body += fmt.Sprintf("if %s { throw %s; } ", m.number(1), m.number(1))
	}
	v := m.fresh("v")
	m.visible = append(m.visible, v)
	return fmt.Sprintf("try { %s} catch %s { %s} ", body, v, m.body(deep, m.Intn(3)))
}

func (m *maker) closure(deep int) string {
	if m.inner {
		return ""
	}
	return m.let("g", m.fn(deep))
}

// fn returns a closure.
func (m *maker) fn(deep int) string {
	outside := slices.Clone(m.visible)
	v := m.fresh("v")
	m.visible = append(m.visible, v)
	m.inner = true
	body := m.body(deep, 1+m.Intn(3)) + fmt.Sprintf("return %s; ", m.number(1))
	m.inner = false
	m.visible = outside
	return fmt.Sprintf("fn (%s) { %s}", v, body)
}

// oddity returns a statement that leaves its frame, or ends the run.
func (m *maker) oddity() string {
	v, o := m.any("v", "1"), m.any("o", "new(0)")
	if m.Intn(4) == 0 {
		return fmt.Sprintf("lock %s; ", o)
	}
	return m.of("return %s; ", "throw %s; ", "assert %s; ", "join %s; ", "print 1 / %s; ", "unlock %s; ", "%s[0] = 1; ", "new(0 - %s); ", "new(1)[%s]; ", "%s.(); ", "while %s { } ", "len(%s); ")(m.of2(v, o))
}

// of returns a function that puts a text into one of some others.
func (m *maker) of(l ...string) func(string) string {
	s := l[m.Intn(len(l))]
	return func(x string) string { return fmt.Sprintf(s, x) }
}

// of2 returns the first of two texts, most of the time.
func (m *maker) of2(a, b string) string {
	if m.Intn(4) == 0 {
		return b
	}
	return a
}

// number returns an expression that is a number, most of the time.
func (m *maker) number(deep int) string {
	v, o := m.any("v", "3"), m.any("o", "new(1)")
	if deep <= 0 {
		return m.of2(v, fmt.Sprint(m.Intn(3)))
	}
	switch m.Intn(14) {
	case 0:
		return m.of2(fmt.Sprint(m.Intn(3)), []string{"2147483647", "2147483648", "-2147483647", "-2147483648", o}[m.Intn(5)])
	case 1, 2:
		return o + "[0]"
	case 3:
		return "len(" + o + ")"
	case 4:
		return m.of2("input", "clock")
	case 5, 6:
		return fmt.Sprintf("f%d(%s, %s)", m.Intn(2), m.number(deep-1), o)
	case 7, 8:
		if g := m.any("g", ""); g != "" {
			return fmt.Sprintf("%s.(%s)", g, m.number(deep-1))
		}
		if !m.inner && m.Intn(3) == 0 {
			return fmt.Sprintf("(%s).(%s)", m.fn(1), v)
		}
	case 9:
		return m.of("-%s", "!%s")(v)
	case 10, 11:
		return fmt.Sprintf("(%s %s %s)", m.number(deep-1), strings.Fields("+ - * == < >= & |")[m.Intn(8)], m.number(deep-1))
	}
	return v
}

// given returns what a random run is given.
func (m *maker) given() api.Given {
	g := api.Given{Picks: make([]uint8, 400)}
	for range 3 + m.Intn(10) {
		g.Inputs = append(g.Inputs, int64(m.Intn(5))-1)
		g.Clocks = append(g.Clocks, int64(m.Intn(100)))
	}
	stay := m.Intn(9)
	for i := range g.Picks {
		g.Picks[i] = uint8(m.Intn(256))
		if i > 0 && m.Intn(9) < stay {
			g.Picks[i] = g.Picks[i-1]
		}
	}
	return g
}

// programs calls a function with random programs.
func programs(t *testing.T, count int, each func(m *maker, p api.Program)) {
	t.Helper()
	for seed := range count {
		m := &maker{Rand: rand.New(rand.NewSource(int64(seed)))}
		text := m.text()
		p, at, e := lang.Parse(text)
		if e == api.OK {
			e = lang.Check(p)
		}
		if e == api.ErrLimit {
			continue
		}
		if e != api.OK {
			t.Fatalf("error %d at %d of %s", e, at, text)
		}
		each(m, p)
		if t.Failed() {
			t.Fatalf("seed %d: %s", seed, text)
		}
	}
}
