package lang_test

import (
	"math/rand"
	"slices"
	"strconv"
	"strings"
	"testing"

	"sleuth/api"
	"sleuth/lang"
)

// maker makes random programs that are well formed. Each of its numbers and names of statements occurs once.
type maker struct {
	*rand.Rand
	last int
	fn   bool // inside a closure
}

func (m *maker) tag() int64 {
	m.last++
	return int64(m.last)
}

func (m *maker) name() string { return []string{"a", "b", "c", "longerName_0"}[m.Intn(4)] }

func (m *maker) program() api.Program {
	p := program(m.list(3+m.Intn(4), m.Intn(5))...)
	for i := range m.Intn(3) {
		p.Funcs = append(p.Funcs, api.Func{Name: "f" + strconv.Itoa(i), Params: []string{m.name(), m.name()}[:m.Intn(3)], Body: m.list(3, 1+m.Intn(2))})
	}
	return p
}

func (m *maker) list(deep, count int) []api.Node {
	var l []api.Node
	for range count {
		l = append(l, m.statement(deep))
	}
	return l
}

func (m *maker) exprs(deep, count int) []api.Node {
	var l []api.Node
	for range count {
		l = append(l, m.expr(deep))
	}
	return l
}

func (m *maker) statement(deep int) api.Node {
	w := table[m.Intn(len(table))]
	for w.kind < api.KiLet || deep <= 0 && (w.body || w.other) {
		w = table[m.Intn(len(table))]
	}
	n := api.Node{Kind: w.kind, Subs: m.exprs(deep-1, w.least)}
	if w.text != "" {
		n.Text = "s" + strconv.FormatInt(m.tag(), 10)
	}
	if w.body {
		n.Body = m.list(deep-1, m.Intn(3))
	}
	if w.other {
		n.Else = m.list(deep-1, m.Intn(3))
	}
	return n
}

func (m *maker) expr(deep int) api.Node {
	w := table[m.Intn(int(api.KiSpawn))]
	if deep <= 0 || w.kind == api.KiFn && m.fn {
		return num(m.tag())
	}
	n := api.Node{Kind: w.kind, Text: w.text, Subs: m.exprs(deep-1, w.least+m.Intn(min(2, w.most-w.least)+1))}
	switch w.kind {
	case api.KiNum:
		n.Num = m.tag()
	case api.KiName, api.KiCall, api.KiSpawn:
		n.Text = m.name()
	case api.KiUnary:
		n.Text = []string{"-", "!"}[m.Intn(2)]
	case api.KiBinary:
		n.Text = strings.Fields("+ - * / % == != < <= > >= & |")[m.Intn(13)]
	case api.KiFn:
		m.fn = true
		n.Params, n.Body = []string{m.name(), m.name()}[:m.Intn(3)], m.list(deep-1, m.Intn(3))
		m.fn = false
	}
	return n
}

// programs calls a function with random programs within the limits.
func programs(t *testing.T, count int, each func(m *maker, p api.Program)) {
	t.Helper()
	m := &maker{Rand: rand.New(rand.NewSource(7))}
	for made := 0; made < count; {
		m.last = 0
		p := m.program()
		if nodes, depth := lang.Nodes(p); nodes > api.MaxNodes || depth > api.MaxDepth {
			continue
		}
		made++
		if e := lang.Shape(p); e != api.OK {
			t.Fatalf("error %d of %v", e, p)
		}
		before := clone(p)
		for i, f := range p.Funcs {
			p.Funcs[i].Body = roomy(f.Body)
		}
		each(m, p)
		if !lang.Same(before, p) || slices.ContainsFunc(p.Funcs, func(f api.Func) bool { return !isRoomy(f.Body) }) {
			t.Fatalf("an argument was changed: %v", before)
		}
	}
}

// roomy returns the same nodes in lists with room behind their ends, which is not for the functions that get them.
func roomy(l []api.Node) []api.Node {
	l = append(slices.Clone(l), do(num(77)))
	l = l[:len(l)-1]
	for i, n := range l {
		l[i].Subs, l[i].Body, l[i].Else = roomy(n.Subs), roomy(n.Body), roomy(n.Else)
	}
	return l
}

// isRoomy reports whether what roomy put behind the ends is still there.
func isRoomy(l []api.Node) bool {
	behind := l[: len(l)+1 : len(l)+1][len(l)]
	return header(behind) == header(do(num(77))) && !slices.ContainsFunc(l, func(n api.Node) bool {
		return !isRoomy(n.Subs) || !isRoomy(n.Body) || !isRoomy(n.Else)
	})
}

// P1.13: texts and trees.
func TestRandomTexts(t *testing.T) {
	programs(t, 1500, func(_ *maker, p api.Program) {
		s := printed(t, p)
		q := parsed(t, s)
		if !lang.Same(p, q) || printed(t, q) != s {
			t.Fatalf("parsed again it is another program: %s", s)
		}
		if lang.Check(p) != lang.Check(q) {
			t.Fatalf("whether it is correct depends on its text: %s", s)
		}
		a, _ := lang.Digest(p)
		b, _ := lang.Digest(q)
		if a != b || a != fnv(s) {
			t.Fatalf("%d and %d: %s", a, b, s)
		}
	})
}

// header returns a statement without the statements in it.
func header(n api.Node) string {
	s := strconv.Itoa(int(n.Kind)) + n.Text + " " + strconv.FormatInt(n.Num, 10) + strings.Join(n.Params, ",")
	for _, sub := range n.Subs {
		s += "(" + header(sub) + ")"
	}
	return s
}

func headers(t *testing.T, p api.Program) []string {
	t.Helper()
	var l []string
	for n := range lang.Count(p) {
		s, e := lang.At(p, n)
		if e != api.OK {
			t.Fatal(e)
		}
		l = append(l, header(s))
	}
	return l
}

// P1.13: Replace and Keep.
func TestRandomEdits(t *testing.T) {
	programs(t, 300, func(m *maker, p api.Program) {
		count := lang.Count(p)
		for n := range count {
			s, _ := lang.At(p, n)
			if q, e := lang.Replace(p, n, []api.Node{s}); e != api.OK || !lang.Same(p, q) {
				t.Fatalf("replacing %d by itself: error %d, %s", n, e, printed(t, p))
			}
		}
		all := slices.Repeat([]bool{true}, count)
		if q, e := lang.Keep(p, all); e != api.OK || !lang.Same(p, q) {
			t.Fatalf("keeping all: error %d, %s", e, printed(t, p))
		}
		old, stays := headers(t, p), make([]bool, count)
		var want []string
		for n := range all {
			all[n] = m.Intn(4) > 0
			w, _ := lang.Where(p, n)
			stays[n] = all[n] && (w.Parent < 0 || stays[w.Parent])
			if stays[n] {
				want = append(want, old[n])
			}
		}
		q, e := lang.Keep(p, all)
		if e != api.OK || lang.Shape(q) != api.OK || !slices.Equal(headers(t, q), want) {
			t.Fatalf("keeping %v: error %d, %s", all, e, printed(t, p))
		}
	})
}

// P1.7: a spot leads to its statement.
func TestRandomSpots(t *testing.T) {
	programs(t, 300, func(_ *maker, p api.Program) {
		for n := range lang.Count(p) {
			s, _ := lang.At(p, n)
			w, _ := lang.Where(p, n)
			if w.Size != lang.Count(program(s)) {
				t.Fatalf("size of %d: %+v, %s", n, w, printed(t, p))
			}
			var lists [][]api.Node
			if w.Parent < 0 {
				lists = append(lists, p.Funcs[w.Func].Body)
			} else {
				parent, _ := lang.At(p, w.Parent)
				lists = map[int][][]api.Node{1: {parent.Body}, 2: {parent.Else}, 3: closureBodies(parent.Subs)}[w.Part]
			}
			if !slices.ContainsFunc(lists, func(l []api.Node) bool {
				return w.Index < len(l) && lang.Same(program(l[w.Index]), program(s))
			}) {
				t.Fatalf("%d: %+v, %s", n, w, printed(t, p))
			}
		}
	})
}

func closureBodies(l []api.Node) [][]api.Node {
	var bodies [][]api.Node
	for _, n := range l {
		if n.Kind == api.KiFn {
			bodies = append(bodies, n.Body)
		}
		bodies = append(bodies, closureBodies(n.Subs)...)
	}
	return bodies
}

// R4: results are new memory.
func TestMemory(t *testing.T) {
	check := func(what string, p api.Program, make func() api.Program) {
		t.Helper()
		first, second := make(), make()
		if !sharesNone(first) {
			t.Fatalf("%s: two lists share memory", what)
		}
		before, want := clone(p), clone(second)
		spoil(first)
		if !lang.Same(p, before) || !lang.Same(second, want) || !lang.Same(make(), want) {
			t.Fatalf("%s: a result shares memory", what)
		}
	}
	programs(t, 200, func(m *maker, p api.Program) {
		text := printed(t, p)
		check("Parse", p, func() api.Program { return parsed(t, text) })
		count := lang.Count(p)
		if count == 0 {
			return
		}
		n := m.Intn(count)
		check("At", p, func() api.Program { s, _ := lang.At(p, n); return program(s) })
		keep := slices.Repeat([]bool{true}, count)
		keep[n] = false
		check("Keep", p, func() api.Program { q, _ := lang.Keep(p, keep); return q })
		loop := api.Node{Kind: api.KiWhile, Subs: []api.Node{num(0)}, Body: many(1)}
		with := roomy([]api.Node{loop})
		check("Replace", program(with...), func() api.Program { q, _ := lang.Replace(p, n, with); return q })
		check("Replace", p, func() api.Program { q, _ := lang.Replace(p, n, []api.Node{loop, loop}); return q })
		if !isRoomy(with) {
			t.Fatal("Replace writes behind the end of its argument")
		}
	})
	p := parsed(t, scopes)
	fnNode := parsed(t, "fun main() { fn () { x = a; }; }").Funcs[0].Body[0]
	for what, list := range map[string]func() []string{
		"Names": func() []string { l, _ := lang.Names(p, 3); return l },
		"Reads": func() []string { return lang.Reads(fnNode) },
		"Held":  func() []string { return lang.Held(fnNode.Subs[0]) },
	} {
		first, second := list(), list()
		want := slices.Clone(second)
		spoilNames(first)
		if len(want) == 0 || !slices.Equal(second, want) || !slices.Equal(list(), want) {
			t.Errorf("%s: a result shares memory", what)
		}
	}
	rows, _ := lang.Calls(p)
	for i := range rows[0][:cap(rows[0])] {
		rows[0][:cap(rows[0])][i] = true
	}
	if rows[1][0] || rows[1][1] {
		t.Error("Calls: two rows share memory")
	}
}

// junk returns a node of any kind with any fields.
func junk(r *rand.Rand, deep int) api.Node {
	n := api.Node{Kind: api.Kind(r.Intn(30)), Text: []string{"", "x", "-", "+", "\xff", "if"}[r.Intn(6)], Num: r.Int63n(5) - 1}
	if r.Intn(9) == 0 {
		n.Kind = api.Kind(r.Intn(256))
	}
	if r.Intn(4) == 0 {
		n.Params = []string{"a", "", "\x00"}[:r.Intn(4)]
	}
	for range r.Intn(deep + 1) {
		n.Subs = append(n.Subs, junk(r, deep-1))
	}
	for range r.Intn(deep + 1) {
		n.Body = append(n.Body, junk(r, deep-1))
	}
	for range r.Intn(deep + 1) {
		n.Else = append(n.Else, junk(r, deep-1))
	}
	return n
}

// callAll calls all functions that accept a program; none may panic.
func callAll(t *testing.T, p api.Program, n api.Node) {
	t.Helper()
	e := lang.Shape(p)
	lang.Nodes(p)
	lang.Check(p)
	lang.Same(p, p)
	lang.Print(p)
	lang.Digest(p)
	lang.Count(p)
	lang.Calls(p)
	lang.Expr(n)
	lang.Reads(n)
	lang.Held(n)
	for _, at := range []int{-1, 0, 1, 1 << 62} {
		lang.At(p, at)
		lang.Where(p, at)
		lang.Names(p, at)
		lang.Replace(p, at, []api.Node{n})
	}
	lang.Keep(p, []bool{false})
	if _, f := lang.Print(p); e != api.OK && f != e {
		t.Fatalf("Print: error %d, Shape: error %d", f, e)
	}
}

// P0.1: nothing panics, whatever is handed in.
func TestTotal(t *testing.T) {
	r := rand.New(rand.NewSource(3))
	for range 3000 {
		n := junk(r, 3)
		callAll(t, api.Program{Funcs: []api.Func{{Name: "main", Body: []api.Node{n}}, {Name: string([]byte{byte(r.Intn(256))})}}}, n)
	}
	for _, deep := range []api.Kind{api.KiUnary, api.KiIf, api.KiFn, api.KiNone} {
		n := api.Node{}
		for range 1 << 16 {
			n = api.Node{Kind: deep, Subs: []api.Node{n}}
		}
		callAll(t, program(do(n)), n)
	}
	callAll(t, api.Program{Funcs: make([]api.Func, 1<<16)}, api.Node{Body: make([]api.Node, 1<<16)})
	letters := "fun main(){}[]=;.,+-!<#\n \xff\x00019azAZ_\"ü"
	for range 20000 {
		b := make([]byte, r.Intn(30))
		for i := range b {
			b[i] = letters[r.Intn(len(letters))]
		}
		text := string(b)
		p, at, e := lang.Parse(text)
		if at < 0 || at > len(text) || at != 0 && e != api.ErrForm || e != api.OK && p.Funcs != nil {
			t.Fatalf("%q: error %d at %d", text, e, at)
		}
	}
}
