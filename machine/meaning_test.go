package machine_test

import (
	"maps"
	"slices"
	"testing"

	"sleuth/api"
	"sleuth/lang"
	"sleuth/machine"
)

// The types here carry out a program of one thread on its tree, as chapter 1 and the meaning of its words say, without instructions or registers.

// thing is a value: an int64, an *object or a *closure.
type thing any

type object struct {
	cells  []thing
	locked bool
}

type closure struct {
	node api.Node
	held map[string]thing
}

// What leaves a tree by a panic: something thrown, a fault, an assertion that does not hold, or too long a run.
type (
	thrown    struct{ thing }
	failure   api.Fault
	unfounded struct{}
	tired     struct{}
)

// world is how far a run on the tree has come.
type world struct {
	functions map[string]api.Func
	given     api.Given
	out       []int64
	patience  int
}

// scope is the names of a call with their values; one without a value is 0.
type scope map[string]thing

func (s scope) get(name string) thing {
	if v, ok := s[name]; ok {
		return v
	}
	return int64(0)
}

func integer(v thing) int64 {
	n, ok := v.(int64)
	if !ok {
		panic(failure(api.FaKind))
	}
	return n
}

func reference(v thing) *object {
	o, ok := v.(*object)
	if !ok {
		panic(failure(api.FaKind))
	}
	return o
}

// call runs a body with its names, and returns what it returns.
func (w *world) call(body []api.Node, names scope) thing {
	if v, returned := w.run(body, names); returned {
		return v
	}
	return int64(0)
}

func (w *world) run(body []api.Node, names scope) (v thing, returned bool) {
	for _, n := range body {
		if v, returned = w.statement(n, names); returned {
			return v, true
		}
	}
	return nil, false
}

func (w *world) statement(n api.Node, names scope) (v thing, returned bool) {
	if w.patience--; w.patience < 0 {
		panic(tired{})
	}
	var first thing
	if len(n.Subs) > 0 {
		first = w.value(n.Subs[0], names)
	}
	switch n.Kind {
	case api.KiLet, api.KiSet:
		names[n.Text] = first
	case api.KiStore:
		index, value := w.value(n.Subs[1], names), w.value(n.Subs[2], names)
		*cell(first, index) = value
	case api.KiIf:
		if integer(first) != 0 {
			return w.run(n.Body, names)
		}
		return w.run(n.Else, names)
	case api.KiWhile:
		for integer(first) != 0 {
			if v, returned = w.run(n.Body, names); returned {
				return v, true
			}
			if w.patience--; w.patience < 0 {
				panic(tired{})
			}
			first = w.value(n.Subs[0], names)
		}
	case api.KiReturn:
		return first, true
	case api.KiThrow:
		panic(thrown{first})
	case api.KiTry:
		v, returned, caught := w.guarded(n.Body, names)
		if caught == nil {
			return v, returned
		}
		names[n.Text] = caught.thing
		return w.run(n.Else, names)
	default:
		w.effect(n.Kind, first)
	}
	return nil, false
}

// guarded runs the body of a try, and returns what it throws.
func (w *world) guarded(body []api.Node, names scope) (v thing, returned bool, caught *thrown) {
	defer func() {
		switch x := recover().(type) {
		case nil:
		case thrown:
			caught = &x
		default:
			panic(x)
		}
	}()
	v, returned = w.run(body, names)
	return v, returned, nil
}

// effect carries out a statement that does something with one value.
func (w *world) effect(k api.Kind, v thing) {
	switch k {
	case api.KiJoin:
		integer(v)
		panic(failure(api.FaJoin))
	case api.KiLock, api.KiUnlock:
		if o := reference(v); o.locked == (k == api.KiLock) {
			panic(failure(api.FaLock))
		}
		reference(v).locked = k == api.KiLock
	case api.KiPrint:
		w.out = append(w.out, integer(v))
	case api.KiAssert:
		if integer(v) == 0 {
			panic(unfounded{})
		}
	}
}

func cell(o, index thing) *thing {
	cells, i := reference(o).cells, integer(index)
	if i < 0 || i >= int64(len(cells)) {
		panic(failure(api.FaRange))
	}
	return &cells[i]
}

func (w *world) value(n api.Node, names scope) thing {
	var v []thing
	for _, s := range n.Subs {
		v = append(v, w.value(s, names))
	}
	switch n.Kind {
	case api.KiNum:
		return n.Num
	case api.KiName:
		return names.get(n.Text)
	case api.KiUnary:
		if x := integer(v[0]); n.Text == "-" {
			return -x
		} else if x == 0 {
			return int64(1)
		}
		return int64(0)
	case api.KiBinary:
		return operate(n.Text, v[0], v[1])
	case api.KiCall:
		f := w.functions[n.Text]
		return w.call(f.Body, bound(scope{}, f.Params, v))
	case api.KiApply:
		c, ok := v[0].(*closure)
		if !ok {
			panic(failure(api.FaKind))
		}
		if len(c.node.Params) != len(v)-1 {
			panic(failure(api.FaArity))
		}
		return w.call(c.node.Body, bound(maps.Clone(c.held), c.node.Params, v[1:]))
	case api.KiNew:
		return made(integer(v[0]))
	case api.KiLoad:
		return *cell(v[0], v[1])
	case api.KiLen:
		return int64(len(reference(v[0]).cells))
	case api.KiFn:
		return &closure{n, maps.Clone(names)}
	case api.KiInput:
		return take(&w.given.Inputs)
	}
	return take(&w.given.Clocks)
}

func bound(names scope, params []string, values []thing) scope {
	if names == nil {
		names = scope{}
	}
	for i, s := range params {
		names[s] = values[i]
	}
	return names
}

func made(size int64) thing {
	if size < 0 {
		panic(failure(api.FaRange))
	}
	if size > api.MaxCells {
		panic(failure(api.FaRoom))
	}
	return &object{cells: slices.Repeat([]thing{int64(0)}, int(size))}
}

func take(l *[]int64) thing {
	if len(*l) == 0 {
		panic(failure(api.FaGiven))
	}
	n := (*l)[0]
	*l = (*l)[1:]
	return n
}

func operate(operator string, a, b thing) thing {
	is := a == b
	if operator == "==" || operator == "!=" {
		if is == (operator == "==") {
			return int64(1)
		}
		return int64(0)
	}
	n, fault := exact(operator, integer(a), integer(b))
	if fault != api.FaNone {
		panic(failure(fault))
	}
	return n
}

// meaning returns what a program prints, why it ends, and what it returns or throws.
func meaning(p api.Program, g api.Given) (out []int64, end api.End, fault api.Fault, v thing) {
	w := &world{functions: map[string]api.Func{}, given: g, patience: api.MaxSteps}
	for _, f := range p.Funcs {
		w.functions[f.Name] = f
	}
	defer func() {
		out = w.out
		switch x := recover().(type) {
		case nil:
		case thrown:
			end, v = api.EnThrown, x.thing
		case failure:
			end, fault = api.EnFault, api.Fault(x)
		case unfounded:
			end = api.EnAssert
		case tired:
			end = api.EnFuel
		default:
			panic(x)
		}
	}()
	v = w.call(w.functions["main"].Body, scope{})
	return w.out, api.EnDone, api.FaNone, v
}

// agrees checks that a run on the machine comes to what the tree means; a limit of runs is none of a tree.
func agrees(t *testing.T, p api.Program, g api.Given) api.End {
	t.Helper()
	o, e := machine.Run(p, g, api.MaxSteps)
	if e != api.OK {
		t.Fatal(e)
	}
	if o.End == api.EnFuel || o.Fault == api.FaRoom {
		return api.EnFuel
	}
	out, end, fault, v := meaning(p, g)
	text, _ := lang.Print(p)
	if !slices.Equal(o.Out, out) || o.End != end || o.Fault != fault {
		t.Fatalf("%s\nthe machine: %+v\nthe tree: %v, end %d, fault %d", text, o, out, end, fault)
	}
	n, isNumber := v.(int64)
	if (o.End == api.EnDone || o.End == api.EnThrown) && isNumber && o.Value != num(n) || !isNumber && v != nil && o.Value.Kind == api.VaInt {
		t.Fatalf("%s\nthe machine: %+v\nthe tree: %v", text, o, v)
	}
	return o.End
}

// P0.2, P2.9: what programs of one thread print is what their texts mean.
func TestMeaning(t *testing.T) {
	ends := map[api.End]int{}
	for seed := range 6000 {
		m := newMaker(int64(seed), false)
		p := parsed(t, m.text())
		ends[agrees(t, p, api.Given{Inputs: []int64{3, -1, 0, 8, 2}, Clocks: []int64{10, 11, 12}})]++
	}
	if ends[api.EnDone] < 1500 || ends[api.EnThrown] < 100 || ends[api.EnFault] < 100 || ends[api.EnAssert] < 20 {
		t.Errorf("too few of some ends: %v", ends)
	}
}
