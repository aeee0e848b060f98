package repair

import (
	"slices"

	"sleuth/api"
	"sleuth/lang"
)

// subject is a correct program that is to be changed, with its statements by their numbers.
type subject struct {
	program    api.Program
	statements []api.Node
	sizes      []int // of how many statements each of them consists
}

// subjectOf returns a program as a subject: the errors of lang.Check.
func subjectOf(p api.Program) (subject, api.Errno) {
	if e := lang.Check(p); e != api.OK {
		return subject{}, e
	}
	s := subject{program: p}
	for _, f := range p.Funcs {
		s.list(f.Body)
	}
	return s, api.OK
}

// list numbers the statements in a list of nodes.
func (s *subject) list(l []api.Node) {
	for _, n := range l {
		at := len(s.statements)
		if isStatement(n.Kind) {
			s.statements = append(s.statements, n)
			s.sizes = append(s.sizes, 0)
		}
		s.list(n.Subs)
		s.list(n.Body)
		s.list(n.Else)
		if isStatement(n.Kind) {
			s.sizes[at] = len(s.statements) - at
		}
	}
}

// size returns how many statements there are in a list of nodes.
func size(l []api.Node) int {
	var s subject
	s.list(l)
	return len(s.statements)
}

func (s subject) isStatement(n int) bool { return 0 <= n && n < len(s.statements) }

// isInside reports whether a statement stands inside another one.
func (s subject) isInside(n, other int) bool { return other < n && n < other+s.sizes[other] }

// unfit is what a patch that cannot be is left with.
type unfit struct{ e api.Errno }

// patched returns the patched program: the errors of CheckPatch for the patch.
func (s subject) patched(x api.Patch) (q api.Program, e api.Errno) {
	defer func() {
		if why, left := recover().(unfit); left {
			q, e = api.Program{}, why.e
		}
	}()
	s.checkPlaces(x.Edits)
	w := editing{x.Edits, s.sizes, 0}
	for _, f := range s.program.Funcs {
		q.Funcs = append(q.Funcs, api.Func{Name: f.Name, Params: slices.Clone(f.Params), Body: rewritten(f.Body, w.place)})
	}
	if e := lang.Check(q); e != api.OK {
		panic(unfit{e})
	}
	return q, api.OK
}

// checkPlaces leaves edits whose places are not right.
func (s subject) checkPlaces(edits []api.Edit) {
	if len(edits) > api.MaxEdits {
		panic(unfit{api.ErrLimit})
	}
	for i, x := range edits {
		if !s.isStatement(x.At) || i > 0 && edits[i-1].At >= x.At {
			panic(unfit{api.ErrArg})
		}
	}
	for i, x := range edits {
		// If it stands inside one further ahead, so do all those between them.
		if i > 0 && s.isInside(x.At, edits[i-1].At) {
			panic(unfit{api.ErrClash})
		}
	}
}

// editing is how far the editing of a program has come.
type editing struct {
	edits []api.Edit // those that are still to come
	sizes []int
	next  int // the number of the next statement
}

// place returns what an edit puts in the place of the next statement, and true if there is one.
func (w *editing) place() (with []api.Node, replaced bool) {
	if len(w.edits) == 0 || w.edits[0].At != w.next {
		w.next++
		return nil, false
	}
	with = w.edits[0].With
	// What is too large is too large for each program, and is not copied.
	if lang.Shape(alone(with)) == api.ErrLimit {
		panic(unfit{api.ErrLimit})
	}
	w.next += w.sizes[w.next]
	w.edits = w.edits[1:]
	return copied(with), true
}

// moved returns the number of each statement in the program that a valid patch makes, or -1.
func (s subject) moved(x api.Patch) []int {
	var l []int
	shift := 0
	stay := func(until int) {
		for n := len(l); n < until; n++ {
			l = append(l, n+shift)
		}
	}
	for _, edit := range x.Edits {
		stay(edit.At)
		gone := s.sizes[edit.At]
		l = append(l, slices.Repeat([]int{-1}, gone)...)
		shift += size(edit.With) - gone
	}
	stay(len(s.statements))
	return l
}
