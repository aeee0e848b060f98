package reduce_test

import (
	"math/rand"
	"slices"
	"strconv"
	"strings"

	"sleuth/api"
	"sleuth/reduce"
)

// textOf returns the text of a tree, as its section says.
func textOf(g api.Grammar, t api.Tree) string {
	r := g.Rules[t.Kind]
	text := r.Before + t.Text
	for i, l := range t.Slots {
		for j, below := range l {
			if j > 0 {
				text += r.Slots[i].Between
			}
			text += textOf(g, below)
		}
	}
	return text + r.After
}

// shape writes all that a tree has; a nil list is an empty one.
func shape(t api.Tree) string {
	s := "{" + strconv.Itoa(t.Kind) + strconv.Quote(t.Text)
	for _, l := range t.Slots {
		s += "["
		for _, below := range l {
			s += shape(below)
		}
		s += "]"
	}
	return s + "}"
}

func copyOf(t api.Tree) api.Tree {
	c := api.Tree{Kind: t.Kind, Text: t.Text}
	for _, l := range t.Slots {
		var list []api.Tree
		for _, below := range l {
			list = append(list, copyOf(below))
		}
		c.Slots = append(c.Slots, list)
	}
	return c
}

// node makes a tree with one list of nodes for each slot.
func node(kind int, slots ...[]api.Tree) api.Tree { return api.Tree{Kind: kind, Slots: slots} }

// leaf makes a tree with a text of its own.
func leaf(kind int, text string) api.Tree { return api.Tree{Kind: kind, Text: text} }

// in makes the list of a slot.
func in(l ...api.Tree) []api.Tree { return l }

// spot is a node of a tree, and the way to it: a slot and an index for each step.
type spot struct {
	tree  api.Tree
	slot  api.Slot
	depth int
	way   []int
}

// spots returns the nodes of a tree in the order of their numbers.
func spots(g api.Grammar, t api.Tree) []spot {
	l := []spot{{tree: t, slot: api.Slot{Kinds: []int{t.Kind}}, depth: 1}}
	for i, list := range t.Slots {
		for j, below := range list {
			for _, s := range spots(g, below) {
				if s.depth == 1 {
					s.slot = g.Rules[t.Kind].Slots[i]
				}
				s.depth++
				s.way = append([]int{i, j}, s.way...)
				l = append(l, s)
			}
		}
	}
	return l
}

// put puts other nodes in the place of the one at the end of a way, which is not empty.
func put(t *api.Tree, way []int, with ...api.Tree) {
	list := &t.Slots[way[0]]
	if len(way) > 2 {
		put(&(*list)[way[1]], way[2:], with...)
		return
	}
	*list = slices.Concat((*list)[:way[1]], with, (*list)[way[1]+1:])
}

// modelSize returns the number of nodes of the smallest tree of a kind that is not higher than a height, or 0.
func modelSize(g api.Grammar, kind, height int) int {
	if height == 0 {
		return 0
	}
	n := 1
	for _, s := range g.Rules[kind].Slots {
		if s.Many != api.SlOne {
			continue
		}
		least := 0
		for _, k := range s.Kinds {
			if m := modelSize(g, k, height-1); m > 0 && (least == 0 || m < least) {
				least = m
			}
		}
		if least == 0 {
			return 0
		}
		n += least
	}
	return n
}

// modelLeast returns the least tree of a kind of a grammar in which each kind has one.
func modelLeast(g api.Grammar, kind int) api.Tree {
	t := api.Tree{Kind: kind}
	for _, s := range g.Rules[kind].Slots {
		var l []api.Tree
		if s.Many == api.SlOne {
			l = append(l, modelLeastIn(g, s))
		}
		t.Slots = append(t.Slots, l)
	}
	return t
}

func modelLeastIn(g api.Grammar, s api.Slot) api.Tree {
	kind := s.Kinds[0]
	for _, k := range s.Kinds {
		if modelSize(g, k, len(g.Rules)) < modelSize(g, kind, len(g.Rules)) {
			kind = k
		}
	}
	return modelLeast(g, kind)
}

func modelPrunable(g api.Grammar, t api.Tree) []int {
	var l []int
	for i, s := range spots(g, t) {
		if i > 0 && (s.slot.Many != api.SlOne || len(spots(g, s.tree)) > len(spots(g, modelLeastIn(g, s.slot)))) {
			l = append(l, i)
		}
	}
	return l
}

// modelPrune prunes nodes one after the other, the last one first, so that the ways to the others stay what they are.
func modelPrune(g api.Grammar, t api.Tree, at []int) api.Tree {
	c := copyOf(t)
	all := spots(g, t)
	for _, n := range slices.Backward(at) {
		if s := all[n]; s.slot.Many == api.SlOne {
			put(&c, s.way, modelLeastIn(g, s.slot))
		} else {
			put(&c, s.way)
		}
	}
	return c
}

func modelHoist(g api.Grammar, t api.Tree, at, from int) (api.Tree, bool) {
	all := spots(g, t)
	to, source := all[at], all[from]
	if from <= at || len(source.way) <= len(to.way) || !slices.Equal(source.way[:len(to.way)], to.way) || !slices.Contains(to.slot.Kinds, source.tree.Kind) {
		return api.Tree{}, false
	}
	if at == 0 {
		return copyOf(source.tree), true
	}
	c := copyOf(t)
	put(&c, to.way, copyOf(source.tree))
	return c, true
}

// randomGrammar returns a grammar without an error, if each of its kinds has a least tree.
func randomGrammar(r *rand.Rand) api.Grammar {
	var g api.Grammar
	n := 1 + r.Intn(5)
	text := func() string { return []string{"", "", "a", "(", ",", "bcd"}[r.Intn(6)] }
	for range n {
		rule := api.Rule{Before: text(), After: text(), Leaf: r.Intn(4) == 0}
		for !rule.Leaf && r.Intn(5) < 3 && len(rule.Slots) < 3 {
			s := api.Slot{Many: api.SlotKind(r.Intn(3)), Kinds: some(r, until(n), 2), Between: text()}
			if len(s.Kinds) == 0 {
				s.Kinds = []int{r.Intn(n)}
			}
			rule.Slots = append(rule.Slots, s)
		}
		g.Rules = append(g.Rules, rule)
	}
	return g
}

// goodGrammar returns a random grammar without an error.
func goodGrammar(r *rand.Rand) api.Grammar {
	for {
		if g := randomGrammar(r); reduce.CheckGrammar(g) == api.OK {
			return g
		}
	}
}

// randomTree returns a tree of a kind that is of a height, or as high as the least trees in it.
func randomTree(r *rand.Rand, g api.Grammar, kind, height int) api.Tree {
	t := api.Tree{Kind: kind}
	if g.Rules[kind].Leaf {
		t.Text = []string{"", "x", "y", "17"}[r.Intn(4)]
	}
	if height < 2 {
		t.Slots = modelLeast(g, kind).Slots
		return t
	}
	for _, s := range g.Rules[kind].Slots {
		count := map[api.SlotKind]int{api.SlOne: 1, api.SlMaybe: r.Intn(2), api.SlList: r.Intn(4)}[s.Many]
		var l []api.Tree
		for range count {
			l = append(l, randomTree(r, g, s.Kinds[r.Intn(len(s.Kinds))], height-1))
		}
		t.Slots = append(t.Slots, l)
	}
	return t
}

// goodTree returns a random grammar and a random tree of it, of a few nodes.
func goodTree(r *rand.Rand, most int) (api.Grammar, api.Tree) {
	for {
		g := goodGrammar(r)
		t := randomTree(r, g, r.Intn(len(g.Rules)), 1+r.Intn(6))
		if n := len(spots(g, t)); n <= most && (n > 1 || r.Intn(9) == 0) {
			return g, t
		}
	}
}

// chain returns a grammar of so many kinds, each with one slot for the next one, and of a last one without slots.
func chain(n int) api.Grammar {
	var g api.Grammar
	for i := range n - 1 {
		g.Rules = append(g.Rules, api.Rule{Before: "(", After: ")", Slots: []api.Slot{{Kinds: []int{i + 1}}}})
	}
	g.Rules = append(g.Rules, api.Rule{Before: "."})
	return g
}

// lists is a grammar of lists of lists and of leaves.
func lists() api.Grammar {
	return api.Grammar{Rules: []api.Rule{
		{Before: "[", After: "]", Slots: []api.Slot{{Many: api.SlList, Kinds: []int{0, 1}, Between: ","}}},
		{Leaf: true},
	}}
}

// read reads a tree of the grammar lists: letters are leaves.
func read(text string) api.Tree {
	t, rest := readNode(text)
	if rest != "" {
		panic(rest)
	}
	return t
}

func readNode(text string) (api.Tree, string) {
	if text[0] != '[' {
		end := len(text) - len(strings.TrimLeft(text, "abcdefghijklmnopqrstuvwxyz"))
		return leaf(1, text[:end]), text[end:]
	}
	t := node(0, nil)
	text = text[1:]
	for text[0] != ']' {
		var below api.Tree
		below, text = readNode(strings.TrimPrefix(text, ","))
		t.Slots[0] = append(t.Slots[0], below)
	}
	return t, text[1:]
}
