package slice_test

import (
	"fmt"
	"math/rand"
	"slices"
	"strings"
	"testing"

	"sleuth/api"
	"sleuth/lang"
)

// maker writes random programs of one thread. A name tells what it holds: v and l a number (l one that counts the turns of a loop down), o an object of two cells, g a closure of one parameter. All functions have three parameters, v, o and g.
type maker struct {
	*rand.Rand
	names    int
	visible  []string
	inner    bool // inside a closure
	closures bool // whether there are any
	wild     bool // whether runs may go on for ever, fault, and end by a throw
	function int  // in which the text is, main the last one
	count    int  // how many there are besides main
}

func newMaker(seed int64) *maker {
	r := rand.New(rand.NewSource(seed))
	return &maker{Rand: r, closures: r.Intn(3) > 0, wild: r.Intn(4) == 0}
}

// fresh returns a new name of a kind.
func (m *maker) fresh(kind string) string {
	m.names++
	return fmt.Sprint(kind, m.names)
}

// let declares a name, which is visible behind.
func (m *maker) let(kind, value string) string {
	name := m.fresh(kind)
	m.visible = append(m.visible, name)
	return fmt.Sprintf("let %s = %s; ", name, value)
}

// any returns a visible name of one of some kinds, or a text if there is none.
func (m *maker) any(kinds, otherwise string) string {
	var l []string
	for _, s := range m.visible {
		if strings.Contains(kinds, s[:1]) {
			l = append(l, s)
		}
	}
	if len(l) == 0 {
		return otherwise
	}
	return l[m.Intn(len(l))]
}

// of returns one of some texts.
func (m *maker) of(l ...string) string { return l[m.Intn(len(l))] }

func (m *maker) text() string {
	s := ""
	m.count = 1 + m.Intn(3)
	for m.function = range m.count {
		m.visible = nil
		for _, kind := range []string{"v", "o", "g"} {
			m.visible = append(m.visible, m.fresh(kind))
		}
		s += fmt.Sprintf("fun f%d(%s) { %s} ", m.function, strings.Join(m.visible, ", "), m.body(2, 1+m.Intn(4)))
	}
	m.function = m.count
	m.visible = nil
	start := m.let("o", "new(2)") + m.let("v", m.of("input", "clock", "2"))
	return s + main(start+m.body(3, 3+m.Intn(6))+fmt.Sprintf("print %s; ", m.any("v", "1")))
}

func (m *maker) body(deep, count int) string {
	s := ""
	for range count {
		s += m.statement(deep)
	}
	return s
}

func (m *maker) statement(deep int) string {
	if deep > 0 && m.Intn(5) < 2 {
		return m.nested(deep - 1)
	}
	switch m.Intn(13) {
	case 0, 1:
		return m.let("v", m.number(2))
	case 2, 3, 4:
		return fmt.Sprintf("%s = %s; ", m.any("v", "new(1)[0]"), m.number(2))
	case 5:
		return m.let("o", m.of("new(2)", m.any("o", "new(2)")))
	case 6, 7:
		return fmt.Sprintf("%s[%s] = %s; ", m.any("o", "new(2)"), m.index(), m.number(2))
	case 8, 9:
		return fmt.Sprintf("print %s; ", m.number(2))
	case 10:
		return fmt.Sprintf("assert %s | 1; ", m.number(1))
	case 11:
		return m.leave()
	}
	return fmt.Sprintf("%s; ", m.number(2))
}

// leave returns a statement that may leave its frame.
func (m *maker) leave() string {
	s := fmt.Sprintf("%s %s; ", m.of("return", "return", "throw"), m.number(1))
	if m.wild && m.Intn(2) == 0 {
		return s
	}
	return fmt.Sprintf("if %s { %s} ", m.number(1), s)
}

// nested returns a statement that consists of others, or leads to other frames.
func (m *maker) nested(deep int) string {
	switch m.Intn(9) {
	case 0, 1:
		return fmt.Sprintf("if %s { %s} ", m.number(2), m.body(deep, m.Intn(3)))
	case 2:
		return fmt.Sprintf("if %s { %s} else { %s} ", m.number(1), m.body(deep, m.Intn(3)), m.body(deep, 1+m.Intn(2)))
	case 3, 4:
		return m.loop(deep)
	case 5, 6:
		return m.guarded(deep)
	case 7:
		v := m.any("v", "0")
		return fmt.Sprintf("if %s > 0 & %s < 4 { print f%d(%s - 1, %s, %s); } ", v, v, m.Intn(m.count), v, m.any("o", "new(2)"), m.closure())
	}
	if m.inner || !m.closures {
		return m.loop(deep)
	}
	return m.let("g", m.fn(deep))
}

func (m *maker) loop(deep int) string {
	if m.wild && m.Intn(2) == 0 {
		return fmt.Sprintf("while %s { %s} ", m.number(2), m.body(deep, m.Intn(3)))
	}
	s := m.let("l", fmt.Sprint(1+m.Intn(3)))
	l := m.visible[len(m.visible)-1]
	down := fmt.Sprintf("%s = %s - 1; ", l, l)
	if m.Intn(2) == 0 {
		return s + fmt.Sprintf("while %s > 0 { %s%s} ", l, down, m.body(deep, m.Intn(4)))
	}
	return s + fmt.Sprintf("while (%s > 0) & (%s < 5) { %s%s} ", l, m.number(1), m.body(deep, m.Intn(4)), down)
}

func (m *maker) guarded(deep int) string {
	body := m.body(deep, m.Intn(3))
	if m.Intn(2) == 0 {
		body += fmt.Sprintf("if %s { throw %s; } ", m.number(1), m.number(1)) + m.body(deep, m.Intn(2))
	}
	v := m.fresh("v")
	m.visible = append(m.visible, v)
	return fmt.Sprintf("try { %s} catch %s { %s} ", body, v, m.body(deep, m.Intn(3)))
}

// closure returns an expression that is a closure, or a number if there are none.
func (m *maker) closure() string {
	g := m.any("g", "0")
	if m.inner || !m.closures || g != "0" && m.Intn(4) > 0 {
		return g
	}
	return m.fn(1)
}

func (m *maker) fn(deep int) string {
	outside := slices.Clone(m.visible)
	v := m.fresh("v")
	m.visible = append(m.visible, v)
	m.inner = true
	body := m.body(deep, m.Intn(3))
	if m.Intn(3) > 0 {
		body += fmt.Sprintf("return %s; ", m.number(1))
	}
	m.inner = false
	m.visible = outside
	return fmt.Sprintf("fn (%s) { %s}", v, body)
}

func (m *maker) index() string {
	return m.of("0", "0", "1", fmt.Sprintf("!%s", m.any("v", "1")))
}

// number returns an expression that is a number, most of the time.
func (m *maker) number(deep int) string {
	v := m.any("vl", "3")
	if deep <= 0 {
		return m.of(v, v, fmt.Sprint(m.Intn(3)))
	}
	switch m.Intn(15) {
	case 0:
		return fmt.Sprint(m.Intn(3))
	case 1, 2:
		return fmt.Sprintf("%s[%s]", m.any("o", "new(2)"), m.index())
	case 3:
		return fmt.Sprintf("len(%s)", m.any("o", "new(1)"))
	case 4:
		return m.of("input", "clock")
	case 5, 6:
		if m.function > 0 {
			return fmt.Sprintf("f%d(%s, %s, %s)", m.Intn(m.function), m.number(deep-1), m.any("o", "new(2)"), m.closure())
		}
	case 7, 8:
		if g := m.closure(); g != "0" {
			return fmt.Sprintf("%s.(%s)", g, m.number(deep-1))
		}
	case 9:
		return fmt.Sprintf("%s%s", m.of("-", "!"), v)
	case 10, 11:
		return fmt.Sprintf("(%s %s %s)", m.number(deep-1), m.of("+", "-", "*", "==", "<", ">=", "&", "|"), m.number(deep-1))
	}
	return v
}

// given returns what a random run is given.
func (m *maker) given() api.Given {
	var g api.Given
	for range 200 {
		g.Inputs = append(g.Inputs, int64(m.Intn(6))-1)
		g.Clocks = append(g.Clocks, int64(m.Intn(100)))
	}
	return g
}

// programs calls a function with random programs.
func programs(t *testing.T, count int, each func(m *maker, p api.Program)) {
	t.Helper()
	refused := 0
	for seed := range count {
		m := newMaker(int64(seed))
		text := m.text()
		p, at, e := lang.Parse(text)
		if e == api.OK {
			e = lang.Check(p)
		}
		switch e {
		case api.OK:
			each(m, p)
		case api.ErrLimit:
			refused++
		default:
			t.Fatalf("error %d at %d of %s", e, at, text)
		}
		if t.Failed() {
			t.Fatalf("seed %d: %s", seed, text)
		}
	}
	if refused > count/10 {
		t.Errorf("%d of %d programs are too large", refused, count)
	}
}
