package session_test

import (
	"fmt"
	"math/rand"
	"slices"
	"strings"
	"testing"

	"sleuth/api"
	"sleuth/lang"
)

// maker writes random programs. A name tells what it holds: v a number, o an object of one cell, g a closure of one parameter, t a thread. The function f, if there is one, has a number and an object as parameters.
type maker struct {
	*rand.Rand
	clocks   bool
	closures bool
	threads  bool
	calls    bool // whether there is f, and it may be called where the text is
	names    int
	visible  []string
	inner    bool // inside a closure
}

func (m *maker) fresh(kind string) string {
	m.names++
	return fmt.Sprint(kind, m.names)
}

// let declares a name, which is visible behind.
func (m *maker) let(kind, value string) string {
	name := m.fresh(kind)
	m.visible = append(m.visible, name)
	return fmt.Sprintf("let %s = %s; ", name, value)
}

// any returns a visible name of a kind, or a text if there is none.
func (m *maker) any(kind, otherwise string) string {
	var l []string
	for _, s := range m.visible {
		if strings.HasPrefix(s, kind) {
			l = append(l, s)
		}
	}
	if len(l) == 0 {
		return otherwise
	}
	return l[m.Intn(len(l))]
}

// of returns one of some texts.
func (m *maker) of(l ...string) string { return l[m.Intn(len(l))] }

// text returns a program of about so many statements.
func (m *maker) text(size int) string {
	s := ""
	if m.Intn(2) == 0 {
		v, o := m.fresh("v"), m.fresh("o")
		m.visible = []string{v, o}
		s = fmt.Sprintf("fun f(%s, %s) { %s} ", v, o, m.body(1, 1+m.Intn(2))+m.of("", fmt.Sprintf("return %s; ", m.number(1))))
		m.calls = true
	}
	m.visible = nil
	start := m.let("v", "input")
	if m.Intn(2) == 0 {
		start += m.let("o", "new(1)")
	}
	return s + "fun main() { " + start + m.body(2, size/2+m.Intn(size)/2) + fmt.Sprintf("print %s; }", m.any("v", "1"))
}

func (m *maker) body(deep, count int) string {
	s := ""
	for range count {
		s += m.statement(deep)
	}
	return s
}

func (m *maker) statement(deep int) string {
	if deep > 0 && m.Intn(2) == 0 {
		return m.nested(deep - 1)
	}
	switch m.Intn(12) {
	case 0, 1, 2:
		return m.let("v", m.number(2))
	case 3, 4, 5:
		return fmt.Sprintf("%s = %s; ", m.any("v", "new(1)[0]"), m.number(2))
	case 6, 7:
		return fmt.Sprintf("%s[%s] = %s; ", m.any("o", "new(1)"), m.of("0", "0", "!"+m.any("v", "1")), m.number(2))
	case 8, 9:
		return fmt.Sprintf("print %s; ", m.number(2))
	case 10:
		return m.leave()
	}
	return fmt.Sprintf("%s; ", m.number(2))
}

// leave returns a statement that may leave its frame, or end the run.
func (m *maker) leave() string {
	v := m.any("v", "1")
	return m.of(fmt.Sprintf("if %s { return %s; } ", v, v), fmt.Sprintf("assert %s < 5; ", v), fmt.Sprintf("if %s { throw %s; } ", v, v), fmt.Sprintf("print 4 / %s; ", v))
}

// nested returns a statement that consists of others, or that leads to other frames or threads.
func (m *maker) nested(deep int) string {
	switch m.Intn(8) {
	case 0, 1:
		return fmt.Sprintf("if %s { %s} ", m.number(1), m.body(deep, 1+m.Intn(2)))
	case 2:
		return fmt.Sprintf("if %s { %s} else { %s} ", m.number(1), m.body(deep, m.Intn(2)), m.body(deep, 1))
	case 3:
		s := m.let("v", fmt.Sprint(1+m.Intn(2)))
		v := m.visible[len(m.visible)-1]
		return s + fmt.Sprintf("while %s > 0 { %s = %s - 1; %s} ", v, v, v, m.body(deep, m.Intn(2)))
	case 4:
		body := m.body(deep, 1) + fmt.Sprintf("if %s { throw %s; } ", m.number(1), m.number(1))
		v := m.fresh("v")
		m.visible = append(m.visible, v)
		return fmt.Sprintf("try { %s} catch %s { %s} ", body, v, m.body(deep, m.Intn(2)))
	case 5, 6:
		if m.threads && m.calls {
			s := m.let("t", fmt.Sprintf("spawn f(%s, %s)", m.number(1), m.any("o", "new(1)")))
			return s + m.of("", fmt.Sprintf("join %s; ", m.visible[len(m.visible)-1]))
		}
	}
	if m.closures && !m.inner {
		return m.let("g", m.fn(deep))
	}
	return fmt.Sprintf("print %s; ", m.number(2))
}

func (m *maker) fn(deep int) string {
	outside := slices.Clone(m.visible)
	v := m.fresh("v")
	m.visible = append(m.visible, v)
	m.inner = true
	body := m.body(deep, m.Intn(2)) + m.of("", fmt.Sprintf("return %s; ", m.number(1)))
	m.inner = false
	m.visible = outside
	return fmt.Sprintf("fn (%s) { %s}", v, body)
}

// number returns an expression that is a number, most of the time.
func (m *maker) number(deep int) string {
	v := m.any("v", "2")
	if deep <= 0 {
		return m.of(v, v, fmt.Sprint(m.Intn(3)))
	}
	switch m.Intn(12) {
	case 0:
		return fmt.Sprint(m.Intn(3))
	case 1:
		return m.any("o", "new(1)") + "[0]"
	case 2:
		if m.clocks {
			return "clock"
		}
	case 3:
		return m.of("input", v, v)
	case 4, 5:
		if m.calls {
			return fmt.Sprintf("f(%s, %s)", m.number(deep-1), m.any("o", "new(1)"))
		}
	case 6, 7:
		if g := m.any("g", ""); g != "" {
			return fmt.Sprintf("%s.(%s)", g, m.number(deep-1))
		}
		if m.closures && !m.inner && m.Intn(3) == 0 {
			return fmt.Sprintf("%s.(%s)", "("+m.fn(0)+")", v)
		}
	case 8, 9, 10:
		return fmt.Sprintf("(%s %s %s)", m.number(deep-1), m.of("+", "-", "*", "<", "=="), m.number(deep-1))
	}
	return v
}

// given returns what a random run is given.
func (m *maker) given() api.Given {
	g := api.Given{}
	for range m.Intn(5) {
		g.Inputs = append(g.Inputs, int64(m.Intn(4))-1)
	}
	for range m.Intn(5) {
		if m.clocks {
			g.Clocks = append(g.Clocks, int64(m.Intn(3)))
		}
	}
	if m.threads && m.Intn(2) == 0 {
		for range m.Intn(90) {
			g.Picks = append(g.Picks, uint8(m.Intn(256)))
		}
	}
	return g
}

// programs calls a function with random programs, some of which have closures, and some threads.
func programs(t *testing.T, count, size int, clocks bool, each func(m *maker, p api.Program)) {
	t.Helper()
	for seed := range count {
		m := &maker{Rand: rand.New(rand.NewSource(int64(seed))), clocks: clocks, closures: seed%3 != 0, threads: seed%4 < 2}
		text := m.text(size)
		p, at, e := lang.Parse(text)
		if e == api.OK {
			e = lang.Check(p)
		}
		if e != api.OK {
			t.Fatalf("error %d at %d of %s", e, at, text)
		}
		each(m, p)
		if t.Failed() {
			t.Fatalf("seed %d: %s", seed, text)
		}
	}
}
