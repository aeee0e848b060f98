package reduce_test

import (
	"fmt"
	"math/rand"
	"slices"
	"strings"
	"testing"

	"sleuth/api"
	"sleuth/reduce"
)

// modelTree is the search of its section, by the package's functions for single trees.
func modelTree(a *asker, g api.Grammar, t api.Tree) (api.Tree, bool) {
	if !a.fails(textOf(g, t)) {
		return api.Tree{}, false
	}
	for {
		before := reduce.Nodes(t)
		for depth := 2; slices.ContainsFunc(spots(g, t), func(s spot) bool { return s.depth == depth }); depth++ {
			t = modelLevel(a, g, t, depth)
		}
		for at := 0; at < reduce.Nodes(t); at++ {
			for from := 0; from < reduce.Nodes(t); from++ {
				if h, e := reduce.Hoist(g, t, at, from); e == api.OK && a.fails(textOf(g, h)) {
					t, from = h, -1
				}
			}
		}
		if reduce.Nodes(t) == before {
			return t, true
		}
	}
}

func modelLevel(a *asker, g api.Grammar, t api.Tree, depth int) api.Tree {
	prunable, _ := reduce.Prunable(g, t)
	var c []int
	for i, s := range spots(g, t) {
		if s.depth == depth && slices.Contains(prunable, i) {
			c = append(c, i)
		}
	}
	if len(c) == 0 {
		return t
	}
	tree := func(kept []int) api.Tree {
		p, e := reduce.Prune(g, t, less(c, kept))
		if e != api.OK {
			panic(e)
		}
		return p
	}
	return tree(modelMinimize(c, func(kept []int) bool { return a.fails(textOf(g, tree(kept))) }))
}

// followsTree checks that Tree asks what its model asks, and comes to what that comes to.
func followsTree(t *testing.T, g api.Grammar, x api.Tree, answer func(string) api.Verdict) told[string, api.TreeQuest] {
	t.Helper()
	name := fmt.Sprintf("Tree(%v, %s)", g, shape(x))
	got := runTree(t, g, x, answer)
	a := &asker{known: map[string]api.Verdict{}, answer: answer}
	want, ok := modelTree(a, g, x)
	sameQuestions(t, name, got.asked, a.asked)
	if ok && got.e != api.OK || !ok && got.e != api.ErrNone || got.end.Done != ok || shape(got.end.Tree) != shape(want) {
		t.Fatalf("%s: error %d, %s, want %v, %s", name, got.e, shape(got.end.Tree), ok, shape(want))
	}
	return got
}

// P6.2: Tree does what its section says, whatever is answered.
func TestTreeModel(t *testing.T) {
	r := rand.New(rand.NewSource(13))
	for range 1500 {
		g, x := goodTree(r, 25)
		v := randomVerdicts(r).first(textOf(g, x), api.VeFail)
		followsTree(t, g, x, v.of)
	}
	for range 200 {
		g, x := goodTree(r, 60)
		needed := textOf(g, spots(g, x)[r.Intn(len(spots(g, x)))].tree)
		followsTree(t, g, x, func(text string) api.Verdict { return verdict(strings.Contains(text, needed)) })
	}
}

// P6.2: Tree goes on as its section says, question by question.
func TestTreeWays(t *testing.T) {
	for _, c := range []struct{ tree, way string }{
		{"a", "af =a"}, {"a", "ap !7"}, {"a", "au !7"}, {"[]", "[]f =[]"},
		{"[a]", "[a]f []p =[a]"}, // a leaf can't stand where the root stands
		{"[a]", "[a]f []f =[]"},
		{"[a,b]", "[a,b]f [a]p [b]p =[a,b]"},
		{"[a,b]", "[a,b]f [a]p [b]f []p =[b]"},
		{"[a,a]", "[a,a]f [a]f []p =[a]"},
		{"[a,a]", "[a,a]f [a]p =[a,a]"},                                // both trees have one text
		{"[[a]]", "[[a]]f []p [[]]p [a]p =[[a]]"},                      // hoists: 0 by 1; 1 by 2 is the same tree as that
		{"[[a]]", "[[a]]f []p [[]]p [a]f =[a]"},                        // then the root's only hoist is gone, and [] was asked
		{"[[a]]", "[[a]]f []p [[]]f =[[]]"},                            // then [] was asked
		{"[[a],b]", "[[a],b]f [[a]]p [b]p [[],b]p [a]p [a,b]f =[a,b]"}, // a hoist, and a round in which all was asked
		{"[[a,b]]", "[[a,b]]f []p [[a]]p [[b]]p [a,b]p [a]p [b]f =[b]"},
		{"[[a,b]]", "[[a,b]]f []p [[a]]u [[b]]f [[]]p [b]u =[[b]]"},
	} {
		walk(t, fmt.Sprintf("Tree(%s)", c.tree), func(answers []api.Verdict) string { return toldTree(lists(), read(c.tree), answers) }, c.way)
	}
}

// toldTree writes how far Tree has come.
func toldTree(g api.Grammar, x api.Tree, answers []api.Verdict) string {
	q, e := reduce.Tree(g, x, answers)
	switch {
	case e != api.OK:
		return fmt.Sprint("!", int(e))
	case q.Done:
		return "=" + textOf(g, q.Tree)
	}
	return "?" + textOf(g, q.Tree)
}

// towers is a grammar in which the least tree of a slot may be deeper than what stands there: b with two nodes below each other is less than c with four below it.
func towers() api.Grammar {
	any := []int{0, 1, 2, 5, 6}
	return api.Grammar{Rules: []api.Rule{
		{Before: "(", After: ")", Slots: []api.Slot{{Kinds: any}}},
		{Before: "b", Slots: []api.Slot{{Kinds: []int{3}}}},
		{Before: "c", Slots: slices.Repeat([]api.Slot{{Kinds: []int{4}}}, 4)},
		{Before: "d", Slots: []api.Slot{{Kinds: []int{4}}}},
		{Before: "."},
		{Before: "p", Slots: []api.Slot{{Kinds: any}, {Kinds: any}}},
		{Before: "q", Slots: []api.Slot{{Kinds: any}, {Kinds: []int{7}}}},
		{Before: "[", After: "]", Slots: []api.Slot{{Many: api.SlList, Kinds: []int{4}}}},
	}}
}

// P6.2: of a tree that is deeper than it may be nothing more is asked, but at the depth at which it became so.
func TestTooDeepTrees(t *testing.T) {
	dot := in(leaf(4, ""))
	wide := in(node(2, dot, dot, dot, dot))
	two, list := node(5, wide, wide), node(6, wide, in(node(7, slices.Concat(dot, dot))))
	g := towers()
	inside := func(text string) string { return strings.Trim(text, "()") }
	for _, c := range []struct {
		x                 api.Tree
		fails, want, last string
	}{
		{two, "pc....bd.", "pc....bd.", "pbd.bd."},
		{two, "pc....bd. pbd.bd.", "pbd.bd.", "pbd.bd."},
		{two, "pbd.c....", "pbd.c....", "pbd.bd."},
		{list, "qbd.[..]", "qbd.[..]", "qbd.[]"}, // the dots of the list, one below, could be pruned if the tree were not too deep
		{list, "qbd.[..] qbd.[]", "qbd.[]", "qbd.[]"},
	} {
		x := c.x
		for range api.MaxDepth - 3 {
			x = node(0, in(x))
		}
		if e := reduce.CheckTree(g, x); e != api.OK {
			t.Fatal(e)
		}
		fails := append(strings.Fields(c.fails), inside(textOf(g, x)))
		got := followsTree(t, g, x, func(text string) api.Verdict {
			return verdict(strings.Count(text, "(") == api.MaxDepth-3 && slices.Contains(fails, inside(text)))
		})
		if s := textOf(g, got.end.Tree); !got.end.Done || inside(s) != c.want || inside(got.asked[len(got.asked)-1]) != c.last {
			t.Errorf("%s: the end is %s, the last question %v", c.fails, s, got.asked[len(got.asked)-1])
		}
		if e := reduce.CheckTree(g, got.end.Tree); e != api.ErrLimit {
			t.Errorf("%s: CheckTree of the result: error %d", c.fails, e)
		}
	}
}

// P6.8: the result of Tree is a tree of the grammar that is not larger; it fails, and no single Prune or Hoist of it does.
func TestTreeMinimal(t *testing.T) {
	r := rand.New(rand.NewSource(14))
	for range 1000 {
		g, x := goodTree(r, 30)
		v := randomVerdicts(r)
		v.known[textOf(g, x)] = api.VeFail
		got := runTree(t, g, x, v.of)
		end := got.end.Tree
		if e := reduce.CheckTree(g, end); got.e != api.OK || e != api.OK || reduce.Nodes(end) > reduce.Nodes(x) || v.known[textOf(g, end)] != api.VeFail {
			t.Fatalf("Tree(%v, %s): errors %d and %d, %s", g, shape(x), got.e, e, shape(end))
		}
		var near []api.Tree
		l, _ := reduce.Prunable(g, end)
		for _, at := range l {
			p, _ := reduce.Prune(g, end, []int{at})
			near = append(near, p)
		}
		for at := range reduce.Nodes(end) {
			for from := range reduce.Nodes(end) {
				if h, e := reduce.Hoist(g, end, at, from); e == api.OK {
					near = append(near, h)
				}
			}
		}
		for _, n := range near {
			if answer, asked := got.verdictOn(textOf(g, n)); !asked || answer == api.VeFail {
				t.Fatalf("Tree(%v, %s) ends with %s: %v, %d of %s", g, shape(x), shape(end), asked, answer, shape(n))
			}
		}
	}
}
