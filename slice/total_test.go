package slice_test

import (
	"fmt"
	"math/rand"
	"slices"
	"strings"
	"testing"

	"sleuth/api"
	"sleuth/lang"
	"sleuth/slice"
)

// arguments is what the functions take besides a program; each takes some of it.
type arguments struct {
	kind slice.Kind
	a, b []int
	n    int
	name string
	g    api.Given
	fuel int
}

// fine is arguments that all functions accept for the program example.
func fine() arguments {
	return arguments{kind: slice.Fine, a: []int{3, 7}, b: []int{8}, n: 8, name: "a", g: api.Given{Inputs: []int64{3, 9}}, fuel: 999}
}

// function is one of the package's functions, which returns as a text what it returned besides the error.
type function struct {
	name      string
	kind      bool // whether it takes a kind
	lists     int  // how many lists of statements it takes
	statement bool // whether it takes a number of a statement
	call      func(p api.Program, x arguments) (string, api.Errno)
}

// functions is all functions of the package but Scope.
func functions() []function {
	return []function{
		{"Units", false, 0, false, func(p api.Program, x arguments) (string, api.Errno) {
			n, l, e := slice.Units(p)
			return fmt.Sprint(n, l), e
		}},
		{"Effects", false, 0, false, func(p api.Program, x arguments) (string, api.Errno) {
			l, e := slice.Effects(p)
			return fmt.Sprint(l), e
		}},
		{"Throwing", false, 0, false, func(p api.Program, x arguments) (string, api.Errno) {
			l, is, e := slice.Throwing(p)
			return fmt.Sprint(l, is), e
		}},
		{"Leads", false, 0, true, func(p api.Program, x arguments) (string, api.Errno) {
			a, b, e := slice.Leads(p, x.n)
			return fmt.Sprint(a, b), e
		}},
		{"Reaching", false, 0, true, func(p api.Program, x arguments) (string, api.Errno) {
			l, e := slice.Reaching(p, x.n, x.name)
			return fmt.Sprint(l), e
		}},
		{"Needs", true, 0, false, func(p api.Program, x arguments) (string, api.Errno) {
			l, e := slice.Needs(p, x.kind)
			return fmt.Sprint(l), e
		}},
		{"Backward", true, 1, false, func(p api.Program, x arguments) (string, api.Errno) {
			l, e := slice.Backward(p, x.kind, x.a)
			return fmt.Sprint(l), e
		}},
		{"Forward", true, 1, false, func(p api.Program, x arguments) (string, api.Errno) {
			l, e := slice.Forward(p, x.kind, x.a)
			return fmt.Sprint(l), e
		}},
		{"Chop", true, 2, false, func(p api.Program, x arguments) (string, api.Errno) {
			l, e := slice.Chop(p, x.kind, x.a, x.b)
			return fmt.Sprint(l), e
		}},
		{"Dice", true, 2, false, func(p api.Program, x arguments) (string, api.Errno) {
			l, e := slice.Dice(p, x.kind, x.a, x.b)
			return fmt.Sprint(l), e
		}},
		{"Barren", true, 0, false, func(p api.Program, x arguments) (string, api.Errno) {
			l, e := slice.Barren(p, x.kind)
			return fmt.Sprint(l), e
		}},
		{"Groups", true, 0, false, func(p api.Program, x arguments) (string, api.Errno) {
			l, e := slice.Groups(p, x.kind)
			return fmt.Sprint(l), e
		}},
		{"Program", true, 1, false, func(p api.Program, x arguments) (string, api.Errno) {
			q, l, e := slice.Program(p, x.kind, x.a)
			return fmt.Sprint(q.Funcs, l), e
		}},
		{"Printed", false, 0, true, func(p api.Program, x arguments) (string, api.Errno) {
			l, o, e := slice.Printed(p, x.g, x.fuel, x.n)
			return fmt.Sprint(l, o), e
		}},
		{"Agree", true, 1, false, func(p api.Program, x arguments) (string, api.Errno) {
			is, e := slice.Agree(p, x.kind, x.a, x.g, x.fuel)
			return fmt.Sprint(is), e
		}},
	}
}

// zero returns what a function returns besides an error.
func (f function) zero() string {
	switch f.name {
	case "Units":
		return "0 []"
	case "Throwing":
		return "[] false"
	case "Agree":
		return "false"
	case "Leads", "Program":
		return "[] []"
	case "Printed":
		return fmt.Sprint([]int64{}, api.Outcome{})
	}
	return "[]"
}

// refuses checks that a function returns an error, and nothing else.
func (f function) refuses(t *testing.T, what string, p api.Program, x arguments, want api.Errno) {
	t.Helper()
	if got, e := f.call(p, x); e != want || got != f.zero() {
		t.Errorf("%s, %s: error %d, %s, want %d, %s", f.name, what, e, got, want, f.zero())
	}
}

// wrong is arguments that are not allowed, whatever the program is.
func wrong() arguments {
	return arguments{kind: 2, a: []int{2, 1}, b: []int{-1}, n: -1, g: tooMuch()[0], fuel: -1}
}

// All functions return the error of Scope first.
func TestScopeFirst(t *testing.T) {
	for _, f := range functions() {
		for want, l := range incorrect(t) {
			for i, p := range l {
				f.refuses(t, fmt.Sprint("program ", i), p, fine(), want)
				f.refuses(t, fmt.Sprint("program ", i, ", and wrong arguments"), p, wrong(), want)
			}
		}
		p := parsed(t, main("let o = new(0); lock o; print 1;"))
		f.refuses(t, "a lock", p, fine(), api.ErrScope)
		f.refuses(t, "a lock, and wrong arguments", p, wrong(), api.ErrScope)
	}
}

// The functions with a kind return ErrArg if it is none.
func TestKinds(t *testing.T) {
	p := parsed(t, example)
	for _, f := range functions() {
		for _, k := range []slice.Kind{slice.Coarse, slice.Fine, 2, 3, 128, 255} {
			x := fine()
			x.kind = k
			if f.kind && k > slice.Fine {
				f.refuses(t, fmt.Sprint("kind ", k), p, x, api.ErrArg)
				x.g = tooMuch()[0]
				f.refuses(t, fmt.Sprint("kind ", k, ", too much given"), p, x, api.ErrArg)
			} else if _, e := f.call(p, x); e != api.OK {
				t.Errorf("%s of kind %d: error %d", f.name, k, e)
			}
		}
	}
}

// The functions with statements return ErrArg if a list of them does not ascend, or has a number that no statement has.
func TestLists(t *testing.T) {
	p := parsed(t, example)
	bad := [][]int{{-1}, {11}, {0, 11}, {-1, 0}, {1, 1}, {2, 1}, {0, 1, 2, 3, 3}, {0, 5, 4, 6}, {1<<63 - 1}, {-1 << 63}, {10, 1 << 40}}
	good := [][]int{nil, {}, {0}, {10}, {0, 10}, until(11)}
	for _, f := range functions() {
		for _, l := range bad {
			for i := range 2 {
				x := fine()
				if i == 0 {
					x.a = l
				} else {
					x.b = l
				}
				if i < f.lists {
					f.refuses(t, fmt.Sprint("list ", i, " ", l), p, x, api.ErrArg)
				} else if _, e := f.call(p, x); e != api.OK {
					t.Errorf("%s: error %d", f.name, e)
				}
			}
		}
		for _, a := range good {
			for _, b := range good {
				x := fine()
				x.a, x.b = a, b
				if _, e := f.call(p, x); e != api.OK {
					t.Errorf("%s of %v and %v: error %d", f.name, a, b, e)
				}
			}
		}
	}
	empty := parsed(t, main(""))
	for _, f := range functions() {
		x := fine()
		x.a, x.b = []int{0}, nil
		if f.lists > 0 || f.statement {
			f.refuses(t, "a statement of an empty program", empty, x, api.ErrArg)
		}
	}
}

// R3: a nil list and an empty one are the same.
func TestEmptyLists(t *testing.T) {
	p := parsed(t, example)
	for _, f := range functions() {
		x, y := fine(), fine()
		x.a, x.b, y.a, y.b = nil, nil, []int{}, []int{}
		x.g.Clocks, y.g.Clocks, x.g.Picks, y.g.Picks = nil, []int64{}, nil, []uint8{}
		a, e := f.call(p, x)
		b, d := f.call(p, y)
		if a != b || e != api.OK || d != api.OK {
			t.Errorf("%s: errors %d and %d, %s and %s", f.name, e, d, a, b)
		}
	}
}

// rich is a program with all that a slice may depend on.
const rich = "fun f(a, o) { if a { throw o[0]; } return h(a) + clock; } fun h(a) { return a; } fun main() { let o = new(2); let x = input; let g = fn (b, c) { o[b] = x; x = c; return f(b, o); }; while x { try { print g.(x, 1); x = x - 1; } catch e { print e + h(f(0, o)); } } print x; print o[1]; }"

// R4: the arguments are not changed, and what is returned is new memory, two lists of which share none.
func TestMemory(t *testing.T) {
	p := parsed(t, rich)
	before := fmt.Sprint(p)
	spare := func(l ...int) []int { return append(slices.Clip(l), 77, 78)[:len(l)] } // memory behind a list that nobody may touch
	x := arguments{kind: slice.Coarse, a: spare(1, 4), b: spare(10), n: 9, name: "x", g: api.Given{Inputs: []int64{1}, Clocks: []int64{5, 6, 7}, Picks: []uint8{1}}, fuel: 500}
	var want []string
	for _, f := range functions() {
		s, e := f.call(p, x)
		if f.name == "Printed" {
			continue
		}
		if e != api.OK {
			t.Fatalf("%s: error %d", f.name, e)
		}
		want = append(want, s)
	}
	spoilAll(p, x)
	i := 0
	for _, f := range functions() {
		if f.name == "Printed" {
			continue
		}
		if s, e := f.call(p, x); e != api.OK || s != want[i] {
			t.Errorf("%s returns something else: error %d, %s, not %s", f.name, e, s, want[i])
		}
		i++
	}
	if fmt.Sprint(p) != before || !slices.Equal(x.a[:4], []int{1, 4, 77, 78}) || !slices.Equal(x.b[:3], []int{10, 77, 78}) || fmt.Sprint(x.g) != "{[1] [5 6 7] [1]}" {
		t.Error("an argument changes")
	}
}

// spoilAll overwrites what the functions return, and checks that the lists of a result share nothing.
func spoilAll(p api.Program, x arguments) {
	for _, k := range kinds {
		_, of, _ := slice.Units(p)
		spoil(of)
		effects, _ := slice.Effects(p)
		for i := range effects {
			spoil(effects[i].Calls)
			clear(effects[i].Reads[:cap(effects[i].Reads)])
			effects[i] = slice.Effect{}
		}
		functions, _, _ := slice.Throwing(p)
		clear(functions[:cap(functions)])
		for n := range lang.Count(p) {
			a, b, _ := slice.Leads(p, n)
			spoil(a)
			spoil(b)
		}
		reaching, _ := slice.Reaching(p, x.n, x.name)
		spoil(reaching)
		needs, _ := slice.Needs(p, k)
		groups, _ := slice.Groups(p, k)
		for _, l := range append(needs, groups...) {
			spoil(l)
		}
		for _, f := range []func(api.Program, slice.Kind, []int) ([]int, api.Errno){slice.Backward, slice.Forward} {
			l, _ := f(p, k, x.a)
			spoil(l)
		}
		for _, f := range []func(api.Program, slice.Kind, []int, []int) ([]int, api.Errno){slice.Chop, slice.Dice} {
			l, _ := f(p, k, x.a, x.b)
			spoil(l)
		}
		barren, _ := slice.Barren(p, k)
		spoil(barren)
		q, l, _ := slice.Program(p, k, x.a)
		spoil(l)
		for i := range q.Funcs {
			spoilNodes(q.Funcs[i].Body)
			clear(q.Funcs[i].Params)
		}
	}
}

// spoil overwrites all memory that a list has.
func spoil(l []int) {
	for i := range l[:cap(l)] {
		l[:cap(l)][i] = -99
	}
}

func spoilNodes(l []api.Node) {
	for i, n := range l {
		spoilNodes(n.Subs)
		spoilNodes(n.Body)
		spoilNodes(n.Else)
		clear(n.Params)
		l[i] = api.Node{Kind: 99, Text: "x", Num: -1}
	}
}

// R4: the lists of a result, and the memory that they may grow into, are apart from one another.
func TestListsApart(t *testing.T) {
	p := parsed(t, rich)
	for _, k := range kinds {
		for name, get := range map[string]func(api.Program, slice.Kind) ([][]int, api.Errno){"Needs": slice.Needs, "Groups": slice.Groups} {
			l, _ := get(p, k)
			want := fmt.Sprint(l)
			for i := range l {
				_ = append(l[i], -99, -99, -99)
			}
			if fmt.Sprint(l) != want {
				t.Errorf("%s: a list grows into another one", name)
			}
		}
	}
	for n := range lang.Count(p) {
		a, b, _ := slice.Leads(p, n)
		want := fmt.Sprint(b)
		spoil(a)
		if fmt.Sprint(b) != want {
			t.Errorf("Leads(%d): both lists share memory", n)
		}
	}
	effects, _ := slice.Effects(p)
	want := fmt.Sprint(effects)
	for _, x := range effects {
		_ = append(x.Reads, "?")
		_ = append(x.Calls, -99)
	}
	if fmt.Sprint(effects) != want {
		t.Error("Effects: a list grows into another one")
	}
}

// junk returns a node of any kind with any fields.
func junk(r *rand.Rand, deep int) api.Node {
	n := api.Node{Kind: api.Kind(r.Intn(30)), Text: []string{"", "", "x", "-", "+", "main", "\xff"}[r.Intn(7)]}
	if r.Intn(9) == 0 {
		n.Num = r.Int63n(5) - 1
	}
	for _, l := range []*[]api.Node{&n.Subs, &n.Body, &n.Else} {
		for range r.Intn(deep + 1) {
			*l = append(*l, junk(r, deep-1))
		}
	}
	return n
}

// P0.1: nothing panics, whatever is handed in; and what is not in scope is refused.
func TestTotal(t *testing.T) {
	r := rand.New(rand.NewSource(5))
	odd := func() int { return []int{0, 1, 2, 3, 9, -1, 1 << 31, -1 << 63, 1<<63 - 1}[r.Intn(9)] }
	list := func() []int { return []int{odd(), odd(), odd()}[:r.Intn(4)] }
	any := func() arguments {
		return arguments{kind: slice.Kind(r.Intn(4)), a: list(), b: list(), n: odd(), name: []string{"", "x", "v1"}[r.Intn(3)], fuel: odd(), g: api.Given{Inputs: make([]int64, r.Intn(3))}}
	}
	for range 600 {
		p := api.Program{Funcs: []api.Func{{Name: []string{"main", "x", ""}[r.Intn(3)], Body: []api.Node{junk(r, 2), junk(r, 1)}}}}
		for _, f := range functions() {
			if s, e := f.call(p, any()); slice.Scope(p) != api.OK && (e != slice.Scope(p) || s != f.zero()) {
				t.Fatalf("%s: error %d, %s", f.name, e, s)
			}
		}
	}
	programs(t, 100, func(_ *maker, p api.Program) {
		for _, f := range functions() {
			if s, e := f.call(p, any()); e != api.OK && s != f.zero() {
				t.Errorf("%s: error %d, %s", f.name, e, s)
			}
		}
	})
}

// P0.1: programs that are as large as the limits allow.
func TestLargest(t *testing.T) {
	tries := ""
	for i := range api.MaxFuncs {
		s := ""
		for j := range api.MaxNames {
			s += fmt.Sprintf("try { } catch x%d { } ", j)
		}
		tries += fmt.Sprintf("fun %s() { %s} ", []string{"main", fmt.Sprint("f", i)}[min(i, 1)], s)
	}
	deep := strings.Repeat("if 1 { ", api.MaxDepth-2) + "print 1; " + strings.Repeat("} ", api.MaxDepth-2)
	for name, text := range map[string]string{
		"KiTrys":  tries,
		"returns": main(strings.Repeat("return 1; print 2; ", api.MaxNodes/4)),
		"throws":  main(strings.Repeat("throw 1; ", api.MaxNodes/2)),
		"inputs":  main(strings.Repeat("print input; ", api.MaxNodes/2)),
		"sets":    main("let x = 1; " + strings.Repeat("x = x; ", api.MaxNodes/2-1)),
		"deep":    main(deep),
	} {
		p := parsed(t, text)
		count := lang.Count(p)
		x := arguments{kind: slice.Fine, a: []int{0, count - 1}, b: until(count), n: count - 1, name: "x", fuel: api.MaxSteps}
		for _, f := range functions() {
			want := api.OK
			if node, _ := lang.At(p, x.n); f.name == "Printed" && node.Kind != api.KiPrint {
				want = api.ErrArg
			}
			if _, e := f.call(p, x); e != want {
				t.Errorf("%s, %s: error %d", name, f.name, e)
			}
		}
	}
}
