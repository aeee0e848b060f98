package slice

import (
	"slices"

	"sleuth/api"
)

// rule is one of the chapter's rules for what is in a slice.
type rule struct {
	number int
	puts   func(s, t *statement) bool // whether it puts t into a slice that has s
}

func (x *program) rules(k Kind) []rule {
	return []rule{
		{1, func(s, t *statement) bool { return t.number == s.Parent }},
		{2, x.giving(k)},
		{3, func(s, t *statement) bool {
			return t.isDeclaration() && t.function == s.function && (t.Sets == s.Sets || slices.Contains(s.Reads, t.Sets))
		}},
		{4, func(s, t *statement) bool { return s.Loads && t.Stores || s.Inputs && t.Inputs || s.Clocks && t.Clocks }},
		{5, func(s, t *statement) bool { return t.isWayOut() && slices.Contains(s.callees, t.within) }},
		{6, func(s, t *statement) bool { return t.isWayOut() && t.Unit == s.Unit }},
		{7, func(s, t *statement) bool { return slices.Contains(t.callees, s.within) }},
	}
}

// isWayOut reports whether a unit may be left at a statement that is not its last one.
func (s *statement) isWayOut() bool { return s.kind == api.KiReturn || s.Throws }

// giving returns what rule 2 puts: whether s may read what t gave a name.
func (x *program) giving(k Kind) func(s, t *statement) bool {
	mentioned := func(s, t *statement) bool {
		return t.Sets != "" && t.Unit == s.Unit && slices.Contains(s.Reads, t.Sets)
	}
	if k == Coarse {
		return mentioned
	}
	reached := make([]set[int], len(x.statements))
	for i, d := range x.statements {
		if d.isDefinition() {
			reached[i] = x.reachedFrom(d)
		}
	}
	return func(s, t *statement) bool {
		return mentioned(s, t) && (t.kind == api.KiTry || reached[t.number].has(s.number))
	}
}

// needs is, of each statement, the statements that it needs, ascending.
type needs [][]int

func (x *program) needs(k Kind) needs {
	all := make(needs, len(x.statements))
	rules := x.rules(k)
	for i, s := range x.statements {
		for j, t := range x.statements {
			if i != j && slices.ContainsFunc(rules, func(r rule) bool { return r.puts(s, t) }) {
				all[i] = append(all[i], j)
			}
		}
	}
	return all
}

// slice returns the slice for some statements: a rule looks at one statement of it at a time, so it is what needs lead to.
func (l needs) slice(of []int) set[int] {
	return grown(len(l), of, func(n int) []int { return l[n] })
}

// reversed returns, of each statement, the statements that need it.
func (l needs) reversed() needs {
	r := make(needs, len(l))
	for i, list := range l {
		for _, j := range list {
			r[j] = append(r[j], i)
		}
	}
	return r
}

// tied returns, of each statement in a slice, the statements that it needs, and those of the slice that need it.
func (l needs) tied(s set[int]) needs {
	ties := make(needs, len(l))
	for _, i := range s.list() {
		ties[i] = append(ties[i], l[i]...)
		for _, j := range l[i] {
			ties[j] = append(ties[j], i)
		}
	}
	return ties
}
