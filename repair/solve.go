package repair

import (
	"iter"
	"slices"

	"sleuth/api"
	"sleuth/lang"
	"sleuth/machine"
)

// term is an expression that is searched for: an operation with two others, a column of the rows, or a number.
type term struct {
	operator int
	x, y     *term // nil if it is no operation
	name     string
	column   int
	number   int64
}

func (t *term) node() api.Node {
	switch {
	case t.x != nil:
		return binary(t.x.node(), operators[t.operator], t.y.node())
	case t.name != "":
		return name(t.name)
	}
	return number(t.number)
}

// value returns the value for a row, and false if there is a fault.
func (t *term) value(row []int64) (n int64, ok bool) {
	switch {
	case t.x == nil && t.name == "":
		return t.number, true
	case t.x == nil:
		return row[t.column], true
	}
	x, ok := t.x.value(row)
	if !ok {
		return 0, false
	}
	y, ok := t.y.value(row)
	if !ok {
		return 0, false
	}
	v, fault := machine.Binary(t.operator, api.Value{N: x}, api.Value{N: y})
	return v.N, fault == api.FaNone
}

// example is a row with the value that is wanted for it.
type example struct {
	row  []int64
	want int64
}

// solver is how far the search for an expression has come.
type solver struct {
	names    []string
	examples []example
	terms    map[int][]term // by how many nodes they have
}

// ofSize tells the terms of so many nodes, an odd number; those with fewer are known.
func (s *solver) ofSize(nodes int) iter.Seq[term] {
	return func(yield func(term) bool) {
		if nodes == 1 {
			tellLeaves(s.names, yield)
			return
		}
		for first := 1; first < nodes-1; first += 2 {
			if !tellOperations(s.terms[first], s.terms[nodes-1-first], yield) {
				return
			}
		}
	}
}

// tellLeaves tells the terms of one node.
func tellLeaves(names []string, yield func(term) bool) {
	for i, s := range names {
		if !yield(term{name: s, column: i}) {
			return
		}
	}
	for n := range int64(3) {
		if !yield(term{number: n}) {
			return
		}
	}
}

// tellOperations tells all operations with two of some terms. It returns false once no term is wanted any more.
func tellOperations(xs, ys []term, yield func(term) bool) bool {
	for operator := range operators {
		for i := range xs {
			for j := range ys {
				if !yield(term{operator: operator, x: &xs[i], y: &ys[j]}) {
					return false
				}
			}
		}
	}
	return true
}

// fits reports whether a term has all wanted values. The row for which it has not is looked at first the next time, because many terms fail there.
func (s *solver) fits(t term) bool {
	for i, x := range s.examples {
		if n, ok := t.value(x.row); !ok || n != x.want {
			s.examples[0], s.examples[i] = x, s.examples[0]
			return false
		}
	}
	return true
}

// search returns the first term of at most so many nodes that fits.
func (s *solver) search(size int) (found term, ok bool) {
	for nodes := 1; nodes <= size; nodes += 2 {
		for t := range s.ofSize(nodes) {
			if s.fits(t) {
				return t, true
			}
			if nodes+2 <= size { // larger ones are made of it
				s.terms[nodes] = append(s.terms[nodes], t)
			}
		}
	}
	return term{}, false
}

// Solve looks for an expression that has the wanted values: P9.3.
func Solve(names []string, rows [][]int64, want []int64, size int) (n api.Node, found bool, e api.Errno) {
	if e := checkTable(names, rows, want); e != api.OK {
		return api.Node{}, false, e
	}
	if e := checkSize(size); e != api.OK {
		return api.Node{}, false, e
	}
	s := solver{names: names, terms: map[int][]term{}}
	for i, row := range rows {
		s.examples = append(s.examples, example{row, want[i]})
	}
	t, found := s.search(size)
	if !found {
		return api.Node{}, false, api.OK
	}
	return t.node(), true, api.OK
}

func checkTable(names []string, rows [][]int64, want []int64) api.Errno {
	seen := map[string]bool{}
	for _, s := range names {
		if !lang.Name(s) || seen[s] {
			return api.ErrArg
		}
		seen[s] = true
	}
	if len(names) > api.MaxVars {
		return api.ErrLimit
	}
	isOther := func(row []int64) bool { return len(row) != len(names) }
	if len(rows) != len(want) || slices.ContainsFunc(rows, isOther) {
		return api.ErrArg
	}
	return api.OK
}

// checkSize returns the error of a number of nodes.
func checkSize(size int) api.Errno {
	switch {
	case size < 1:
		return api.ErrArg
	case size > api.MaxExpr:
		return api.ErrLimit
	}
	return api.OK
}
