package reduce

import (
	"iter"
	"slices"
	"strings"

	"sleuth/api"
)

// node is a node of a tree of a grammar, with everything below it. It is never changed, so trees have nodes in common.
type node struct {
	kind   int
	own    string // its own text
	slots  [][]*node
	text   string // with everything below it
	size   int    // how many nodes it is
	height int    // the depth of its deepest node, if it is a root
}

// node makes a node of a kind.
func (g *grammar) node(kind int, own string, slots [][]*node) *node {
	n := &node{kind: kind, own: own, slots: slots, size: 1}
	rule := g.rules[kind]
	var text strings.Builder
	text.WriteString(rule.Before + own)
	for i, l := range slots {
		for j, below := range l {
			if j > 0 {
				text.WriteString(rule.Slots[i].Between)
			}
			text.WriteString(below.text)
			n.size += below.size
			n.height = max(n.height, below.height)
		}
	}
	text.WriteString(rule.After)
	n.text = text.String()
	n.height++
	return n
}

// read makes nodes of a tree without an error.
func (g *grammar) read(t api.Tree) *node {
	slots := make([][]*node, len(t.Slots))
	for i, l := range t.Slots {
		for _, below := range l {
			slots[i] = append(slots[i], g.read(below))
		}
	}
	return g.node(t.Kind, t.Text, slots)
}

// tree makes a tree of nodes.
func (n *node) tree() api.Tree {
	t := api.Tree{Kind: n.kind, Text: n.own, Slots: make([][]api.Tree, len(n.slots))}
	for i, l := range n.slots {
		for _, below := range l {
			t.Slots[i] = append(t.Slots[i], below.tree())
		}
	}
	return t
}

// nodes tells all nodes of a tree with their depths, in the order of their numbers.
func nodes(t api.Tree) iter.Seq2[int, api.Tree] {
	return func(yield func(int, api.Tree) bool) { tellNodes(t, 1, yield) }
}

func tellNodes(t api.Tree, depth int, yield func(int, api.Tree) bool) bool {
	if !yield(depth, t) {
		return false
	}
	for _, l := range t.Slots {
		for _, below := range l {
			if !tellNodes(below, depth+1, yield) {
				return false
			}
		}
	}
	return true
}

// Nodes returns the number of nodes of a tree.
func Nodes(t api.Tree) int {
	count := 0
	for range nodes(t) {
		count++
	}
	return count
}

// CheckTree returns the first error of a tree.
func CheckTree(g api.Grammar, t api.Tree) api.Errno {
	_, _, e := readTree(g, t)
	return e
}

// readTree reads a tree of a grammar.
func readTree(g api.Grammar, t api.Tree) (*grammar, *node, api.Errno) {
	x, e := readGrammar(g)
	if e != api.OK {
		return nil, nil, e
	}
	if isTooLarge(t) {
		return nil, nil, api.ErrLimit
	}
	for _, n := range nodes(t) {
		if e := x.checkNode(n); e != api.OK {
			return nil, nil, e
		}
	}
	return x, x.read(t), api.OK
}

func isTooLarge(t api.Tree) bool {
	count := 0
	for depth := range nodes(t) {
		if count++; count > api.MaxNodes || depth > api.MaxDepth {
			return true
		}
	}
	return false
}

// checkNode returns the first error of a node, whatever is below the nodes of its slots.
func (g *grammar) checkNode(t api.Tree) api.Errno {
	if !isNumber(t.Kind, len(g.rules)) {
		return api.ErrArg
	}
	rule := g.rules[t.Kind]
	switch {
	case len(t.Text) > api.MaxName:
		return api.ErrLimit
	case t.Text != "" && !rule.Leaf, len(t.Slots) != len(rule.Slots):
		return api.ErrArg
	}
	for i, l := range t.Slots {
		if !isAllowed(rule.Slots[i], l) {
			return api.ErrArg
		}
	}
	return api.OK
}

// isAllowed reports whether nodes may stand in a slot.
func isAllowed(s api.Slot, l []api.Tree) bool {
	if s.Many == api.SlOne && len(l) != 1 || s.Many == api.SlMaybe && len(l) > 1 {
		return false
	}
	return !slices.ContainsFunc(l, func(t api.Tree) bool { return !slices.Contains(s.Kinds, t.Kind) })
}

// Print returns the text of a tree.
func Print(g api.Grammar, t api.Tree) (string, api.Errno) {
	_, root, e := readTree(g, t)
	if e != api.OK {
		return "", e
	}
	return root.text, api.OK
}
