package reduce

import (
	"slices"

	"sleuth/api"
)

// grammar is a grammar without an error.
type grammar struct {
	rules []api.Rule
	least []*node // the least tree of each kind
}

// CheckGrammar returns the first error of a grammar.
func CheckGrammar(g api.Grammar) api.Errno {
	_, e := readGrammar(g)
	return e
}

func readGrammar(g api.Grammar) (*grammar, api.Errno) {
	if len(g.Rules) == 0 {
		return nil, api.ErrArg
	}
	if len(g.Rules) > api.MaxRules {
		return nil, api.ErrLimit
	}
	for _, r := range g.Rules {
		if e := checkRule(r, len(g.Rules)); e != api.OK {
			return nil, e
		}
	}
	x := &grammar{rules: g.Rules}
	return x, x.findLeast()
}

// checkRule returns the first error of a rule among so many.
func checkRule(r api.Rule, rules int) api.Errno {
	switch {
	case len(r.Before) > api.MaxName || len(r.After) > api.MaxName:
		return api.ErrLimit
	case r.Leaf && len(r.Slots) > 0:
		return api.ErrArg
	case len(r.Slots) > api.MaxSlots:
		return api.ErrLimit
	}
	for _, s := range r.Slots {
		switch {
		case s.Many > api.SlList:
			return api.ErrArg
		case len(s.Between) > api.MaxName:
			return api.ErrLimit
		case len(s.Kinds) == 0 || !isSet(s.Kinds, rules):
			return api.ErrArg
		}
	}
	return api.OK
}

// findLeast builds the least trees, the smallest ones first, because the others are made of them.
func (g *grammar) findLeast() api.Errno {
	g.least = make([]*node, len(g.rules))
	sizes := g.leastSizes()
	kinds := until(len(g.rules))
	slices.SortFunc(kinds, func(a, b int) int { return sizes[a] - sizes[b] })
	for _, kind := range kinds {
		if sizes[kind] > api.MaxNodes {
			return api.ErrNone
		}
		slots := make([][]*node, len(g.rules[kind].Slots))
		for i, s := range g.rules[kind].Slots {
			if s.Many == api.SlOne {
				slots[i] = []*node{g.least[smallest(s.Kinds, sizes)]}
			}
		}
		g.least[kind] = g.node(kind, "", slots)
		if g.least[kind].height > api.MaxDepth {
			return api.ErrNone
		}
	}
	return api.OK
}

// leastSizes returns how many nodes the least tree of each kind has, or a number above MaxNodes if there is none or it has too many.
func (g *grammar) leastSizes() []int {
	const tooMany = api.MaxNodes + 1
	sizes := slices.Repeat([]int{tooMany}, len(g.rules))
	for changed := true; changed; {
		changed = false
		for kind, r := range g.rules {
			if n := leastSize(r, sizes); n < sizes[kind] {
				sizes[kind], changed = n, true
			}
		}
	}
	return sizes
}

// leastSize returns how many nodes a node with as little as possible below it has, as far as the sizes of the least trees are known.
func leastSize(r api.Rule, sizes []int) int {
	n := 1
	for _, s := range r.Slots {
		if s.Many == api.SlOne {
			n += sizes[smallest(s.Kinds, sizes)]
		}
	}
	return n
}

// smallest returns the kind whose least tree has the fewest nodes.
func smallest(kinds []int, sizes []int) int {
	return slices.MinFunc(kinds, func(a, b int) int { return sizes[a] - sizes[b] })
}

// leastIn returns the least tree of a slot.
func (g *grammar) leastIn(s api.Slot) *node {
	return g.least[slices.MinFunc(s.Kinds, func(a, b int) int { return g.least[a].size - g.least[b].size })]
}

// Least returns the least tree of a kind.
func Least(g api.Grammar, kind int) (api.Tree, api.Errno) {
	x, e := readGrammar(g)
	if e != api.OK {
		return api.Tree{}, e
	}
	if !isNumber(kind, len(x.rules)) {
		return api.Tree{}, api.ErrArg
	}
	return x.least[kind].tree(), api.OK
}
