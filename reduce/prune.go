package reduce

import (
	"iter"
	"slices"

	"sleuth/api"
)

// prunable returns the places whose nodes can be pruned.
func (g *grammar) prunable(root *node) []*place {
	var l []*place
	for p := range g.places(rootPlace(root)) {
		if p.number > 0 && (p.slot.Many != api.SlOne || p.size > g.leastIn(p.slot).size) {
			l = append(l, &p)
		}
	}
	return l
}

// prune returns a tree in which the nodes at some prunable places are pruned.
func (g *grammar) prune(root *node, at []*place) *node {
	return g.replaced(root, at, func(p *place) []*node {
		if p.slot.Many == api.SlOne {
			return []*node{g.leastIn(p.slot)}
		}
		return nil
	})
}

// canHoist reports whether the node at one place may stand at a place above it.
func canHoist(at, from place) bool {
	return at.number < from.number && from.number < at.end() && slices.Contains(at.slot.Kinds, from.kind)
}

// hoist returns a tree in which the node at a place is replaced by another one.
func (g *grammar) hoist(root *node, at, from place) *node {
	return g.replaced(root, []*place{&at}, func(*place) []*node { return []*node{from.node} })
}

// Prunable returns the numbers of the nodes that can be pruned.
func Prunable(g api.Grammar, t api.Tree) ([]int, api.Errno) {
	x, root, e := readTree(g, t)
	if e != api.OK {
		return nil, e
	}
	var l []int
	for _, p := range x.prunable(root) {
		l = append(l, p.number)
	}
	return l, api.OK
}

// Prune returns a tree without the nodes of a list.
func Prune(g api.Grammar, t api.Tree, at []int) (api.Tree, api.Errno) {
	x, root, e := readTree(g, t)
	if e != api.OK {
		return api.Tree{}, e
	}
	if !isSet(at, root.size) {
		return api.Tree{}, api.ErrArg
	}
	chosen := slices.DeleteFunc(x.prunable(root), func(p *place) bool { return !slices.Contains(at, p.number) })
	if len(chosen) < len(at) {
		return api.Tree{}, api.ErrArg
	}
	return x.prune(root, chosen).tree(), api.OK
}

// Hoist returns a tree in which a node is replaced by one below it.
func Hoist(g api.Grammar, t api.Tree, at, from int) (api.Tree, api.Errno) {
	x, root, e := readTree(g, t)
	if e != api.OK {
		return api.Tree{}, e
	}
	if !isNumber(at, root.size) || !isNumber(from, root.size) {
		return api.Tree{}, api.ErrArg
	}
	to, source := x.find(rootPlace(root), at), x.find(rootPlace(root), from)
	if !canHoist(to, source) {
		return api.Tree{}, api.ErrArg
	}
	return x.hoist(root, to, source).tree(), api.OK
}

// Tree goes on with hierarchical delta debugging.
func Tree(g api.Grammar, t api.Tree, answers []api.Verdict) (api.TreeQuest, api.Errno) {
	x, root, e := readTree(g, t)
	if e != api.OK {
		return api.TreeQuest{}, e
	}
	return replay(answers, nodeText, askNode, func(s *search[*node]) (api.TreeQuest, api.Errno) {
		if !s.fails(root) {
			return api.TreeQuest{}, api.ErrNone
		}
		for before := root.size + 1; root.size < before; {
			before = root.size
			root = x.hoisted(x.minimizedLevels(root, s.fails), s.fails)
		}
		return api.TreeQuest{Done: true, Tree: root.tree()}, api.OK
	})
}

func nodeText(n *node) string { return n.text }

func askNode(n *node) api.TreeQuest { return api.TreeQuest{Tree: n.tree()} }

// minimizedLevels is the first part of a round: for each depth, it prunes what it can.
func (g *grammar) minimizedLevels(root *node, fails func(*node) bool) *node {
	for depth := 2; depth <= root.height; depth++ {
		all := g.prunableAt(root, depth)
		kept := minimized(all, func(kept []*place) bool { return fails(g.prune(root, without(all, kept))) })
		root = g.prune(root, without(all, kept))
	}
	return root
}

// prunableAt returns the prunable places of a depth; a tree that is deeper than it may be has none.
func (g *grammar) prunableAt(root *node, depth int) []*place {
	if root.height > api.MaxDepth {
		return nil
	}
	return slices.DeleteFunc(g.prunable(root), func(p *place) bool { return p.depth != depth })
}

// hoisted is the second part of a round: for each node, it hoists what it can.
func (g *grammar) hoisted(root *node, fails func(*node) bool) *node {
	for at := 0; at < root.size; at++ {
		root = descended(root, func(root *node) iter.Seq[*node] { return g.hoists(root, at) }, fails)
	}
	return root
}

// hoists gives the trees in which a node is replaced by one below it; a tree that is deeper than it may be has none.
func (g *grammar) hoists(root *node, number int) iter.Seq[*node] {
	return func(yield func(*node) bool) {
		if root.height > api.MaxDepth {
			return
		}
		at := g.find(rootPlace(root), number)
		for from := range g.places(at) {
			if canHoist(at, from) && !yield(g.hoist(root, at, from)) {
				return
			}
		}
	}
}
