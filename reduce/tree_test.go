package reduce_test

import (
	"fmt"
	"math/rand"
	"slices"
	"strings"
	"testing"

	"sleuth/api"
	"sleuth/reduce"
)

// text returns a text of so many bytes.
func text(n int) string { return strings.Repeat("\xff", n) }

// forms is a grammar with all kinds of slots.
func forms() api.Grammar {
	return api.Grammar{Rules: []api.Rule{
		{Before: "{", After: "}", Slots: []api.Slot{
			{Many: api.SlOne, Kinds: []int{1, 2}, Between: "!"},
			{Many: api.SlMaybe, Kinds: []int{0, 1}, Between: "?"},
			{Many: api.SlList, Kinds: []int{0, 1, 2}, Between: ";"},
		}},
		{Before: "<", After: ">", Leaf: true},
		{Before: "-", Slots: []api.Slot{{Many: api.SlOne, Kinds: []int{0, 1}}}},
	}}
}

// P6.2: the first error of a grammar.
func TestCheckGrammar(t *testing.T) {
	slot := func(many api.SlotKind, between string, kinds ...int) api.Slot {
		return api.Slot{Many: many, Between: between, Kinds: kinds}
	}
	one := func(kinds ...int) api.Slot { return slot(api.SlOne, "", kinds...) }
	empty := api.Rule{}
	long := api.Rule{Before: text(api.MaxName + 1)}
	for i, c := range []struct {
		rules []api.Rule
		want  api.Errno
	}{
		{nil, api.ErrArg},
		{[]api.Rule{empty}, api.OK},
		{slices.Repeat([]api.Rule{empty}, api.MaxRules), api.OK},
		{slices.Repeat([]api.Rule{empty}, api.MaxRules+1), api.ErrLimit},
		{slices.Repeat([]api.Rule{{Leaf: true, Slots: []api.Slot{one(0)}}}, api.MaxRules+1), api.ErrLimit},
		{[]api.Rule{{Before: text(api.MaxName), After: text(api.MaxName), Leaf: true}}, api.OK},
		{[]api.Rule{long}, api.ErrLimit},
		{[]api.Rule{{After: text(api.MaxName + 1)}}, api.ErrLimit},
		{[]api.Rule{{Before: text(api.MaxName + 1), Leaf: true, Slots: []api.Slot{one()}}}, api.ErrLimit},
		{[]api.Rule{{Leaf: true, Slots: []api.Slot{slot(api.SlList, "", 0)}}}, api.ErrArg},
		{[]api.Rule{{Leaf: true, Slots: slices.Repeat([]api.Slot{slot(api.SlList, "", 0)}, api.MaxSlots+1)}}, api.ErrArg},
		{[]api.Rule{{Slots: slices.Repeat([]api.Slot{slot(api.SlList, text(api.MaxName), 0)}, api.MaxSlots)}}, api.OK},
		{[]api.Rule{{Slots: slices.Repeat([]api.Slot{slot(9, "", 0)}, api.MaxSlots+1)}}, api.ErrLimit},
		{[]api.Rule{{Slots: []api.Slot{slot(3, text(17))}}}, api.ErrArg},
		{[]api.Rule{{Slots: []api.Slot{slot(255, "", 0)}}}, api.ErrArg},
		{[]api.Rule{{Slots: []api.Slot{slot(api.SlMaybe, text(17))}}}, api.ErrLimit},
		{[]api.Rule{{Slots: []api.Slot{slot(api.SlMaybe, "")}}}, api.ErrArg},
		{[]api.Rule{{Slots: []api.Slot{slot(api.SlMaybe, "", 1)}}}, api.ErrArg},
		{[]api.Rule{{Slots: []api.Slot{slot(api.SlMaybe, "", -1)}}}, api.ErrArg},
		{[]api.Rule{{Slots: []api.Slot{slot(api.SlMaybe, "", -1, 0)}}}, api.ErrArg},
		{[]api.Rule{{Slots: []api.Slot{slot(api.SlMaybe, "", 0, 0)}}}, api.ErrArg},
		{[]api.Rule{{Slots: []api.Slot{slot(api.SlMaybe, "", 1, 0)}}, empty}, api.ErrArg},
		{[]api.Rule{{Slots: []api.Slot{slot(api.SlMaybe, "", 0, 1)}}, empty}, api.OK},
		{[]api.Rule{{Slots: []api.Slot{slot(api.SlMaybe, "", 0, 1, 1<<62)}}, empty}, api.ErrArg},
		{[]api.Rule{{Slots: []api.Slot{slot(api.SlMaybe, "", 0), slot(api.SlMaybe, "")}}, long}, api.ErrArg}, // rule by rule
		{[]api.Rule{{Slots: []api.Slot{slot(api.SlMaybe, text(17), 0), slot(7, "", 0)}}}, api.ErrLimit},      // slot by slot
		{[]api.Rule{{Slots: []api.Slot{one(0)}}}, api.ErrNone},
		{[]api.Rule{{Slots: []api.Slot{one(0)}}, long}, api.ErrLimit}, // at last
		{[]api.Rule{{Slots: []api.Slot{one(0, 1)}}, {Slots: []api.Slot{one(0)}}}, api.ErrNone},
		{[]api.Rule{{Slots: []api.Slot{one(0, 1)}}, {Slots: []api.Slot{one(0, 1)}}, empty}, api.ErrNone},
		{[]api.Rule{{Slots: []api.Slot{one(0, 1)}}, {Slots: []api.Slot{one(0, 2)}}, empty}, api.OK},
		{[]api.Rule{{Slots: []api.Slot{slot(api.SlList, "", 0), one(0, 1)}}, empty}, api.OK},
	} {
		if e := reduce.CheckGrammar(api.Grammar{Rules: c.rules}); e != c.want {
			t.Errorf("CheckGrammar, case %d: error %d, want %d", i, e, c.want)
		}
	}
}

// twins returns a grammar in which each kind has two slots for the next one, but the last kinds, which are a chain.
func twins(twice, once int) api.Grammar {
	g := chain(twice + once)
	for i := range twice {
		g.Rules[i].Slots = slices.Repeat(g.Rules[i].Slots, 2)
	}
	return g
}

// P6.2: least trees with as many nodes, and as deep, as is allowed.
func TestLargestLeast(t *testing.T) {
	large := func(above int) api.Grammar { // a kind with a least tree of 1023 nodes, below a chain
		g := twins(9, 1)
		for i := range g.Rules {
			for j := range g.Rules[i].Slots {
				g.Rules[i].Slots[j].Kinds = []int{i + 1 + above}
			}
		}
		g.Rules = append(chain(above + 1).Rules[:above], g.Rules...)
		return g
	}
	for i, c := range []struct {
		g    api.Grammar
		want api.Errno
		size int
	}{
		{chain(api.MaxDepth), api.OK, api.MaxDepth},
		{chain(api.MaxDepth + 1), api.ErrNone, 0},
		{large(0), api.OK, 1023},
		{large(1), api.OK, 1024},
		{large(2), api.ErrNone, 0},
		{twins(10, 1), api.ErrNone, 0},
		{twins(31, 1), api.ErrNone, 0},
	} {
		least, e := reduce.Least(c.g, 0)
		if f := reduce.CheckGrammar(c.g); e != c.want || f != c.want || c.want == api.OK && reduce.Nodes(least) != c.size {
			t.Errorf("case %d: errors %d and %d, %d nodes, want %d, %d", i, e, f, reduce.Nodes(least), c.want, c.size)
		}
	}
	most := chain(api.MaxRules)
	for i := range most.Rules[:api.MaxRules-1] {
		most.Rules[i].Slots = slices.Repeat(most.Rules[i].Slots, api.MaxSlots) // 8^31 nodes
	}
	if e := reduce.CheckGrammar(most); e != api.ErrNone {
		t.Errorf("8^31 nodes: error %d", e)
	}
	for i := range most.Rules {
		most.Rules[i].Slots = slices.Repeat([]api.Slot{{Kinds: until(api.MaxRules)}}, api.MaxSlots)
	}
	if e := reduce.CheckGrammar(most); e != api.ErrNone {
		t.Errorf("all kinds below all kinds: error %d", e)
	}
	most.Rules[api.MaxRules-1].Slots = nil
	if least, e := reduce.Least(most, 0); e != api.OK || reduce.Nodes(least) != 1+api.MaxSlots {
		t.Errorf("all kinds below all kinds but one: error %d, %d nodes", e, reduce.Nodes(least))
	}
}

// P6.2: the first error of a tree.
func TestCheckTree(t *testing.T) {
	g := forms()
	x := leaf(1, "x")
	small := node(0, in(x), nil, nil)
	deep := func(n int) api.Tree {
		d := node(0, in(x), nil, nil)
		for range n - 2 {
			d = node(0, in(x), nil, in(d))
		}
		return d
	}
	wide := func(n int) api.Tree { return node(0, in(x), nil, slices.Repeat(in(x), n-2)) }
	spoilt := func(t api.Tree, kind int) api.Tree { t.Kind = kind; return t }
	for i, c := range []struct {
		tree api.Tree
		want api.Errno
	}{
		{small, api.OK},
		{x, api.OK},
		{leaf(1, ""), api.OK},
		{node(2, in(x)), api.OK},
		{node(0, in(node(2, in(small))), in(small), in(x, small, node(2, in(x)))), api.OK},
		{node(3), api.ErrArg}, {node(-1), api.ErrArg}, {node(1 << 62), api.ErrArg}, {node(-1 << 63), api.ErrArg},
		{leaf(1, text(api.MaxName)), api.OK}, {leaf(1, text(api.MaxName+1)), api.ErrLimit},
		{leaf(3, text(api.MaxName+1)), api.ErrArg},            // the kind first
		{leaf(0, text(api.MaxName+1)), api.ErrLimit},          // then the length
		{api.Tree{Text: "x", Slots: small.Slots}, api.ErrArg}, // no leaf
		{leaf(2, text(api.MaxName)), api.ErrArg},              // no leaf, and no slots
		{node(0, in(x), nil), api.ErrArg},                     // too few slots
		{node(0, in(x), nil, nil, nil), api.ErrArg},           // too many
		{node(0), api.ErrArg}, {node(1, nil), api.ErrArg},
		{node(0, nil, nil, nil), api.ErrArg},      // SlOne with none
		{node(0, in(x, x), nil, nil), api.ErrArg}, // and with two
		{node(0, in(x), in(x), nil), api.OK},
		{node(0, in(x), in(x, x), nil), api.ErrArg}, // SlMaybe with two
		{node(0, in(small), nil, nil), api.ErrArg},  // kinds that may not stand there
		{node(0, in(x), in(node(2, in(x))), nil), api.ErrArg},
		{node(0, in(x), nil, in(x, leaf(5, ""))), api.ErrArg},
		{node(0, in(node(2, in(node(2, in(x))))), nil, nil), api.ErrArg}, // further below
		{node(0, in(node(2, nil)), nil, in(leaf(1, text(17)))), api.ErrArg},
		{node(0, in(leaf(1, text(17))), nil, in(node(2, nil))), api.ErrLimit}, // node by node
		{node(0, in(leaf(1, text(17))), in(x, x), nil), api.ErrArg},           // all of a node before the next one
		{wide(api.MaxNodes), api.OK}, {wide(api.MaxNodes + 1), api.ErrLimit},
		{deep(api.MaxDepth), api.OK}, {deep(api.MaxDepth + 1), api.ErrLimit},
		{spoilt(wide(api.MaxNodes), 1), api.ErrArg}, {spoilt(wide(api.MaxNodes+1), 1), api.ErrLimit},
		{spoilt(deep(api.MaxDepth), 7), api.ErrArg}, {spoilt(deep(api.MaxDepth+1), 7), api.ErrLimit},
		{deep(1 << 16), api.ErrLimit},
	} {
		if e := reduce.CheckTree(g, c.tree); e != c.want {
			t.Errorf("CheckTree, case %d: error %d, want %d", i, e, c.want)
		}
		s, e := reduce.Print(g, c.tree)
		if e != c.want || e == api.OK && s != textOf(g, c.tree) || e != api.OK && s != "" {
			t.Errorf("Print, case %d: error %d, %q, want %d", i, e, s, c.want)
		}
		if e := reduce.CheckTree(api.Grammar{}, c.tree); e != api.ErrArg {
			t.Errorf("CheckTree without a grammar, case %d: error %d", i, e)
		}
	}
	if n := reduce.Nodes(deep(1 << 16)); n != 2*(1<<16)-2 {
		t.Errorf("Nodes of a deep tree: %d", n)
	}
	if n := reduce.Nodes(node(99, nil, in(leaf(-4, text(99))), in(node(1, nil), node(2)))); n != 4 {
		t.Errorf("Nodes of a tree of no grammar: %d", n)
	}
	double := x
	for range 60 {
		double = node(0, in(double, double))
	}
	if e := reduce.CheckTree(g, double); e != api.ErrLimit {
		t.Errorf("CheckTree of 2^60 nodes: error %d", e)
	}
}

// P6.2: least trees, and which one of several.
func TestLeast(t *testing.T) {
	g := forms()
	for kind, want := range []string{"{<>}", "<>", "-<>"} {
		least, e := reduce.Least(g, kind)
		if got := textOf(g, least); e != api.OK || got != want {
			t.Errorf("Least(%d): error %d, %q, want %q", kind, e, got, want)
		}
	}
	for _, kind := range []int{-1, 3, 1 << 62, -1 << 63} {
		if least, e := reduce.Least(g, kind); e != api.ErrArg || shape(least) != shape(api.Tree{}) {
			t.Errorf("Least(%d): error %d, %v", kind, e, least)
		}
	}
	if _, e := reduce.Least(chain(25), -1); e != api.ErrNone {
		t.Errorf("Least of a grammar without least trees: error %d", e)
	}
	// Of the kinds 1 to 3 with two nodes, and 4 with three: the first one; with 5, which has one node: 5.
	two := []api.Slot{{Kinds: []int{5}}}
	h := api.Grammar{Rules: []api.Rule{
		{Slots: []api.Slot{{Kinds: []int{2, 3, 4}}, {Kinds: []int{3, 4}}, {Kinds: []int{1, 2, 5}}, {Kinds: []int{0, 4}}}},
		{Before: "1", Slots: two}, {Before: "2", Slots: two}, {Before: "3", Slots: two},
		{Before: "4", Slots: []api.Slot{{Kinds: []int{1, 2}}}},
		{Before: "5"},
	}}
	least, e := reduce.Least(h, 0)
	if got := textOf(h, least); e != api.OK || got != "2535"+"5"+"415" {
		t.Errorf("Least: error %d, %q", e, got)
	}
}

// P6.2: which nodes can be pruned, and what is left then.
func TestPrune(t *testing.T) {
	g := forms()
	x, y := leaf(1, "x"), leaf(1, "y")
	// 0 {, 1 -, 2 {, 3 x, 4 y (maybe), 5 -, 6 x, 7 y
	tree := node(0, in(node(2, in(node(0, in(x), in(y), nil)))), nil, in(node(2, in(x)), y))
	if s := textOf(g, tree); s != "{-{<x><y>}-<x>;<y>}" {
		t.Fatal(s)
	}
	if l, e := reduce.Prunable(g, tree); e != api.OK || !slices.Equal(l, numbers("1 2 4 5 7")) {
		t.Errorf("Prunable: error %d, %v", e, l)
	}
	for at, want := range map[string]string{
		"":      "{-{<x><y>}-<x>;<y>}",
		"1":     "{<>-<x>;<y>}",
		"2":     "{-<>-<x>;<y>}",
		"4":     "{-{<x>}-<x>;<y>}",
		"5":     "{-{<x><y>}<y>}",
		"7":     "{-{<x><y>}-<x>}",
		"5 7":   "{-{<x><y>}}",
		"1 2 4": "{<>-<x>;<y>}", // 2 and 4 are below 1
		"2 4 7": "{-<>-<x>}",
		"4 5":   "{-{<x>}<y>}",
	} {
		got, e := reduce.Prune(g, tree, numbers(at))
		if s := textOf(g, got); e != api.OK || s != want {
			t.Errorf("Prune(%s): error %d, %s, want %s", at, e, s, want)
		}
	}
	for _, at := range []string{"0", "3", "6", "8", "-1", "1 1", "2 1", "1 3", "-1 1", "7 9", "1 2 3", "4611686018427387904", "0 1 2 3 4 5 6 7"} {
		if got, e := reduce.Prune(g, tree, numbers(at)); e != api.ErrArg || shape(got) != shape(api.Tree{}) {
			t.Errorf("Prune(%s): error %d, %v", at, e, got)
		}
	}
}

// P6.2: a node can be replaced by one below it if its kind may stand there.
func TestHoist(t *testing.T) {
	g := forms()
	x, y := leaf(1, "x"), leaf(1, "y")
	// 0 {, 1 -, 2 {, 3 x, 4 y (maybe), 5 -, 6 x
	tree := node(0, in(node(2, in(node(0, in(x), in(y), nil)))), nil, in(node(2, in(x))))
	can := map[string]string{
		"0 2": "{<x><y>}",
		"1 3": "{<x>-<x>}", "1 4": "{<y>-<x>}",
		"2 3": "{-<x>-<x>}", "2 4": "{-<y>-<x>}",
		"5 6": "{-{<x><y>}<x>}",
	}
	for at := -1; at < 9; at++ {
		for from := -1; from < 9; from++ {
			want, is := can[fmt.Sprint(at, " ", from)]
			got, e := reduce.Hoist(g, tree, at, from)
			if is && (e != api.OK || textOf(g, got) != want) {
				t.Errorf("Hoist(%d, %d): error %d, %s, want %s", at, from, e, textOf(g, got), want)
			}
			if !is && (e != api.ErrArg || shape(got) != shape(api.Tree{})) {
				t.Errorf("Hoist(%d, %d): error %d, %v", at, from, e, got)
			}
		}
	}
}

// P6.2: the functions for trees do what their sections say.
func TestTreeModels(t *testing.T) {
	r := rand.New(rand.NewSource(11))
	for range 1500 {
		g := randomGrammar(r)
		want := api.OK
		for kind := range g.Rules {
			if modelSize(g, kind, len(g.Rules)) == 0 {
				want = api.ErrNone
			}
		}
		if e := reduce.CheckGrammar(g); e != want {
			t.Fatalf("CheckGrammar(%v): error %d, want %d", g, e, want)
		}
		g, x := goodTree(r, 40)
		for kind := range g.Rules {
			if least, e := reduce.Least(g, kind); e != api.OK || shape(least) != shape(modelLeast(g, kind)) {
				t.Fatalf("Least(%v, %d): error %d, %v", g, kind, e, least)
			}
		}
		all := spots(g, x)
		s, e := reduce.Print(g, x)
		if f := reduce.CheckTree(g, x); e != api.OK || f != api.OK || s != textOf(g, x) || reduce.Nodes(x) != len(all) {
			t.Fatalf("%v, %s: errors %d and %d, %q, %d nodes", g, shape(x), e, f, s, reduce.Nodes(x))
		}
		l, e := reduce.Prunable(g, x)
		if e != api.OK || !slices.Equal(l, modelPrunable(g, x)) {
			t.Fatalf("Prunable(%v, %s): error %d, %v", g, shape(x), e, l)
		}
		at := some(r, l, 1+r.Intn(5))
		if got, e := reduce.Prune(g, x, at); e != api.OK || shape(got) != shape(modelPrune(g, x, at)) {
			t.Fatalf("Prune(%v, %s, %v): error %d, %s", g, shape(x), at, e, shape(got))
		}
		for range 20 {
			at, from := r.Intn(len(all)), r.Intn(len(all))
			want, is := modelHoist(g, x, at, from)
			if got, e := reduce.Hoist(g, x, at, from); shape(got) != shape(want) || is != (e == api.OK) || !is && e != api.ErrArg {
				t.Fatalf("Hoist(%v, %s, %d, %d): error %d, %s", g, shape(x), at, from, e, shape(got))
			}
		}
	}
}

// P6.8: the least tree of a kind has no more nodes than any other tree of it.
func TestLeastOfAll(t *testing.T) {
	r := rand.New(rand.NewSource(12))
	for range 1500 {
		g, x := goodTree(r, 200)
		for _, s := range spots(g, x) {
			if least, e := reduce.Least(g, s.tree.Kind); e != api.OK || reduce.Nodes(least) > reduce.Nodes(s.tree) {
				t.Fatalf("Least(%v, %d): error %d, %s, %s", g, s.tree.Kind, e, shape(least), shape(s.tree))
			}
		}
	}
}
