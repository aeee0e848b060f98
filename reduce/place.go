package reduce

import (
	"iter"

	"sleuth/api"
)

// place is where a node stands in a tree.
type place struct {
	*node
	number int
	depth  int
	slot   api.Slot
}

// rootPlace returns the place of a root: it stands in no slot, but only a node of its kind may stand there.
func rootPlace(root *node) place {
	return place{root, 0, 1, api.Slot{Kinds: []int{root.kind}}}
}

// end returns the number behind those of a node and of the nodes below it.
func (p place) end() int { return p.number + p.size }

// below tells the places directly below a place, with the indexes of their slots.
func (g *grammar) below(p place) iter.Seq2[int, place] {
	return func(yield func(int, place) bool) {
		number := p.number + 1
		for i, l := range p.slots {
			for _, n := range l {
				if !yield(i, place{n, number, p.depth + 1, g.rules[p.kind].Slots[i]}) {
					return
				}
				number += n.size
			}
		}
	}
}

// places tells a place and all places below it, in the order of their numbers.
func (g *grammar) places(p place) iter.Seq[place] {
	return func(yield func(place) bool) { g.tellPlaces(p, yield) }
}

func (g *grammar) tellPlaces(p place, yield func(place) bool) bool {
	if !yield(p) {
		return false
	}
	for _, q := range g.below(p) {
		if !g.tellPlaces(q, yield) {
			return false
		}
	}
	return true
}

// find returns the place with a number, which is that of p or of one below p.
func (g *grammar) find(p place, number int) place {
	for _, q := range g.below(p) {
		if p.number < number && number < q.end() {
			return g.find(q, number)
		}
	}
	return p
}

// replaced returns the tree in which other nodes stand at some places, in the order of their numbers; what is below such a place is gone with it.
func (g *grammar) replaced(root *node, at []*place, with func(*place) []*node) *node {
	if len(at) == 0 {
		return root
	}
	return g.appendReplaced(nil, rootPlace(root), at, with)[0]
}

// appendReplaced appends what stands at p then. The first one of at is p, or below it.
func (g *grammar) appendReplaced(to []*node, p place, at []*place, with func(*place) []*node) []*node {
	if at[0].number == p.number {
		return append(to, with(at[0])...)
	}
	slots := make([][]*node, len(p.slots))
	for i, q := range g.below(p) {
		for len(at) > 0 && at[0].number < q.number {
			at = at[1:]
		}
		if len(at) > 0 && at[0].number < q.end() {
			slots[i] = g.appendReplaced(slots[i], q, at, with)
		} else {
			slots[i] = append(slots[i], q.node)
		}
	}
	return append(to, g.node(p.kind, p.own, slots))
}
