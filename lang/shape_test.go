package lang_test

import (
	"math"
	"slices"
	"testing"

	"sleuth/api"
	"sleuth/lang"
)

// P1.2: Nodes.
func TestNodes(t *testing.T) {
	odd := api.Node{Kind: 99, Subs: []api.Node{{}, {Body: []api.Node{{}}}}, Else: []api.Node{{}}}
	for i, c := range []struct {
		p            api.Program
		nodes, depth int
	}{
		{api.Program{}, 0, 0},
		{program(), 0, 0},
		{program(do(num(1))), 2, 2},
		{parsed(t, "fun main() { let x = 1; while x < 9 { x = x * 2; } print x; }"), 12, 4},
		{parsed(t, "fun f() { 1; } fun main() { if 1 { } else { fn (a) { return a; }; } }"), 8, 5},
		{parsed(t, "fun main() { try { 1; } catch e { -2; } }"), 6, 4},
		{program(odd, odd), 10, 3},
		{program(nested(70000)), 70000, 70000},
	} {
		if n, d := lang.Nodes(c.p); n != c.nodes || d != c.depth {
			t.Errorf("%d: %d nodes, depth %d, want %d and %d", i, n, d, c.nodes, c.depth)
		}
	}
}

// P1.2: the limits, and one past each.
func TestShapeLimits(t *testing.T) {
	funcs := func(n int) api.Program { return api.Program{Funcs: slices.Repeat(program().Funcs, n)} }
	body := many(api.MaxNodes / 2)
	for i, c := range []struct {
		p    api.Program
		want api.Errno
	}{
		{api.Program{}, api.OK},
		{funcs(api.MaxFuncs), api.OK},
		{funcs(api.MaxFuncs + 1), api.ErrLimit},
		{program(body...), api.OK},
		{program(append(body[:len(body)-1:len(body)-1], do(nested(2)))...), api.ErrLimit},
		{program(do(nested(api.MaxDepth - 1))), api.OK},
		{program(do(nested(api.MaxDepth))), api.ErrLimit},
		{program(do(nested(70000))), api.ErrLimit},
		// a limit counts ahead of the form
		{api.Program{Funcs: slices.Repeat([]api.Func{{Name: "A"}}, api.MaxFuncs+1)}, api.ErrLimit},
		{program(nested(api.MaxDepth + 1)), api.ErrLimit},
		{program(make([]api.Node, api.MaxNodes+1)...), api.ErrLimit},
		{program(make([]api.Node, api.MaxNodes)...), api.ErrArg},
	} {
		if e := lang.Shape(c.p); e != c.want {
			t.Errorf("%d: %d, want %d", i, e, c.want)
		}
	}
}

// P1.2: names and parameters of functions.
func TestShapeFunctions(t *testing.T) {
	eight := []string{"a", "b", "c", "d", "e", "f", "g", "h"}
	nine := append(slices.Clone(eight), "i")
	for i, c := range []struct {
		f    api.Func
		want api.Errno
	}{
		{api.Func{Name: "f"}, api.OK},
		{api.Func{}, api.ErrArg},
		{api.Func{Name: "F"}, api.ErrArg},
		{api.Func{Name: "while"}, api.ErrArg},
		{api.Func{Name: "f", Params: eight}, api.OK},
		{api.Func{Name: "f", Params: nine}, api.ErrArg},
		{api.Func{Name: "f", Params: []string{"a", "a"}}, api.OK},
		{api.Func{Name: "f", Params: []string{"a", ""}}, api.ErrArg},
		{api.Func{Name: "f", Body: []api.Node{num(1)}}, api.ErrArg},
		{api.Func{Name: "f", Body: []api.Node{do(fn(eight))}}, api.OK},
		{api.Func{Name: "f", Body: []api.Node{do(fn(nine))}}, api.ErrArg},
		{api.Func{Name: "f", Body: []api.Node{do(fn([]string{"\xff"}))}}, api.ErrArg},
		{api.Func{Name: "f", Body: []api.Node{do(fn(nil, num(1)))}}, api.ErrArg},
		{api.Func{Name: "f", Body: []api.Node{do(fn(nil, do(fn(nil))))}}, api.ErrArg},
		{api.Func{Name: "f", Body: []api.Node{do(fn(nil, do(node(api.KiUnary, "-", fn(nil)))))}}, api.ErrArg},
		{api.Func{Name: "f", Body: []api.Node{do(node(api.KiBinary, "+", fn(nil), fn(nil)))}}, api.OK},
	} {
		if e := lang.Shape(api.Program{Funcs: []api.Func{{Name: "a"}, c.f}}); e != c.want {
			t.Errorf("%d: %d, want %d", i, e, c.want)
		}
	}
}

// wanted is a row of the chapter's table of kinds.
type wanted struct {
	kind        api.Kind
	text        string // an example, empty if it has none
	least, most int
	body, other bool
}

var table = []wanted{
	{kind: api.KiNum}, {kind: api.KiName, text: "x"}, {kind: api.KiUnary, text: "-", least: 1, most: 1},
	{kind: api.KiBinary, text: "+", least: 2, most: 2}, {kind: api.KiCall, text: "x", most: 8},
	{kind: api.KiApply, least: 1, most: 9}, {kind: api.KiNew, least: 1, most: 1}, {kind: api.KiLoad, least: 2, most: 2},
	{kind: api.KiLen, least: 1, most: 1}, {kind: api.KiFn, body: true}, {kind: api.KiInput}, {kind: api.KiClock},
	{kind: api.KiSpawn, text: "x", most: 8}, {kind: api.KiLet, text: "x", least: 1, most: 1},
	{kind: api.KiSet, text: "x", least: 1, most: 1}, {kind: api.KiStore, least: 3, most: 3},
	{kind: api.KiIf, least: 1, most: 1, body: true, other: true}, {kind: api.KiWhile, least: 1, most: 1, body: true},
	{kind: api.KiReturn, least: 1, most: 1}, {kind: api.KiThrow, least: 1, most: 1},
	{kind: api.KiTry, text: "x", body: true, other: true}, {kind: api.KiJoin, least: 1, most: 1},
	{kind: api.KiLock, least: 1, most: 1}, {kind: api.KiUnlock, least: 1, most: 1}, {kind: api.KiPrint, least: 1, most: 1},
	{kind: api.KiAssert, least: 1, most: 1}, {kind: api.KiDo, least: 1, most: 1},
}

// around puts an expression into a statement, and leaves a statement as it is.
func around(n api.Node) api.Program {
	if n.Kind >= api.KiNum && n.Kind <= api.KiSpawn {
		n = do(n)
	}
	return program(n)
}

// P1.2: which fields belong to which kind.
func TestShapeKinds(t *testing.T) {
	for _, w := range table {
		good := api.Node{Kind: w.kind, Text: w.text, Subs: slices.Repeat([]api.Node{num(1)}, w.least)}
		try := func(what string, ok bool, change func(n *api.Node)) {
			t.Helper()
			n := good
			change(&n)
			want := api.ErrArg
			if ok {
				want = api.OK
			}
			if e := lang.Shape(around(n)); e != want {
				t.Errorf("kind %d, %s: %d, want %d", w.kind, what, e, want)
			}
		}
		for subs := range 11 {
			try("subs", w.least <= subs && subs <= w.most, func(n *api.Node) { n.Subs = slices.Repeat([]api.Node{num(1)}, subs) })
		}
		if w.least > 0 {
			try("a statement as sub", false, func(n *api.Node) { n.Subs = slices.Repeat([]api.Node{do(num(1))}, w.least) })
			try("no kind as sub", false, func(n *api.Node) { n.Subs = slices.Repeat([]api.Node{{}}, w.least) })
		}
		try("Body", w.body, func(n *api.Node) { n.Body = many(2) })
		try("Else", w.other, func(n *api.Node) { n.Else = many(2) })
		try("an expression in Body", false, func(n *api.Node) { n.Body = []api.Node{num(1)} })
		try("an expression in Else", false, func(n *api.Node) { n.Else = []api.Node{num(1)} })
		try("Params", w.kind == api.KiFn, func(n *api.Node) { n.Params = []string{"a"} })
		try("Num", w.kind == api.KiNum, func(n *api.Node) { n.Num = math.MaxInt64 })
		try("Num below 0", false, func(n *api.Node) { n.Num = -1 })
		try("empty lists", true, func(n *api.Node) { n.Params, n.Body, n.Else = []string{}, []api.Node{}, []api.Node{} })
		for _, s := range []string{"", "x", "-", "!", "+", "|", "if", "X", "\xff", "abcdefghijklmnopq"} {
			ok := s == ""
			switch {
			case w.kind == api.KiUnary:
				ok = s == "-" || s == "!"
			case w.kind == api.KiBinary:
				ok = s == "+" || s == "-" || s == "|"
			case w.text == "x":
				ok = s == "x"
			}
			try("text "+s, ok, func(n *api.Node) { n.Text = s })
		}
	}
	for _, k := range []api.Kind{api.KiNone, api.KiDo + 1, 100, 255} {
		for _, p := range []api.Program{program(api.Node{Kind: k}), program(do(api.Node{Kind: k}))} {
			if e := lang.Shape(p); e != api.ErrArg {
				t.Errorf("kind %d: %d", k, e)
			}
		}
	}
}

// P1.4: every field counts, and nil is empty.
func TestSame(t *testing.T) {
	base := api.Program{Funcs: []api.Func{{Name: "f", Params: []string{"a"}, Body: []api.Node{{
		Kind: api.KiIf, Text: "t", Num: 3, Subs: []api.Node{num(1)}, Params: []string{"p"}, Body: many(1), Else: many(1),
	}}}, {Name: "g"}}}
	if !lang.Same(base, clone(base)) || !lang.Same(api.Program{}, api.Program{Funcs: []api.Func{}}) {
		t.Fatal("they are the same")
	}
	empty := clone(base)
	empty.Funcs[1].Params, empty.Funcs[1].Body = []string{}, []api.Node{}
	empty.Funcs[0].Body[0].Subs[0].Subs = []api.Node{}
	if !lang.Same(base, empty) || !lang.Same(empty, base) {
		t.Fatal("nil and empty are the same")
	}
	for i, change := range []func(p *api.Program){
		func(p *api.Program) { p.Funcs = p.Funcs[:1] },
		func(p *api.Program) { p.Funcs[0], p.Funcs[1] = p.Funcs[1], p.Funcs[0] },
		func(p *api.Program) { p.Funcs[0].Name = "h" },
		func(p *api.Program) { p.Funcs[0].Params = nil },
		func(p *api.Program) { p.Funcs[0].Params[0] = "b" },
		func(p *api.Program) { p.Funcs[0].Body = nil },
		func(p *api.Program) { p.Funcs[0].Body = append(p.Funcs[0].Body, api.Node{}) },
		func(p *api.Program) { p.Funcs[0].Body[0].Kind = api.KiWhile },
		func(p *api.Program) { p.Funcs[0].Body[0].Text = "" },
		func(p *api.Program) { p.Funcs[0].Body[0].Num = 0 },
		func(p *api.Program) { p.Funcs[0].Body[0].Subs[0].Num = 2 },
		func(p *api.Program) { p.Funcs[0].Body[0].Params[0] = "q" },
		func(p *api.Program) { p.Funcs[0].Body[0].Params = nil },
		func(p *api.Program) { p.Funcs[0].Body[0].Body[0].Subs[0].Num = 2 },
		func(p *api.Program) { p.Funcs[0].Body[0].Else[0].Subs[0].Num = 2 },
		func(p *api.Program) { p.Funcs[0].Body[0].Body, p.Funcs[0].Body[0].Else = nil, many(2) },
	} {
		q := clone(base)
		change(&q)
		if lang.Same(base, q) || lang.Same(q, base) {
			t.Errorf("change %d makes another program", i)
		}
	}
	if deep := program(nested(70000)); !lang.Same(deep, deep) || lang.Same(deep, program(nested(70001))) {
		t.Error("deep programs")
	}
}
