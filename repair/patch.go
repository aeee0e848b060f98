package repair

import (
	"cmp"
	"slices"

	"sleuth/api"
)

// patched returns a program as a subject, and what a patch makes of it: the errors of CheckPatch.
func patched(p api.Program, x api.Patch) (subject, api.Program, api.Errno) {
	s, e := subjectOf(p)
	if e != api.OK {
		return subject{}, api.Program{}, e
	}
	q, e := s.patched(x)
	if e != api.OK {
		return subject{}, api.Program{}, e
	}
	return s, q, api.OK
}

// CheckPatch returns the first error of a patch: P9.1.
func CheckPatch(p api.Program, x api.Patch) api.Errno {
	_, _, e := patched(p, x)
	return e
}

// Apply returns the patched program: P9.1.
func Apply(p api.Program, x api.Patch) (api.Program, api.Errno) {
	_, q, e := patched(p, x)
	return q, e
}

// Moved returns the number that each statement has in the patched program, or -1: P9.1.
func Moved(p api.Program, x api.Patch) ([]int, api.Errno) {
	s, _, e := patched(p, x)
	if e != api.OK {
		return nil, e
	}
	return s.moved(x), api.OK
}

// merged returns a program as a subject, and the patch of all edits of two patches: the errors of Merge.
func merged(p api.Program, x, y api.Patch) (subject, api.Patch, api.Errno) {
	s, _, e := patched(p, x)
	if e == api.OK {
		_, e = s.patched(y)
	}
	if e == api.OK && s.clash(x, y) {
		e = api.ErrClash
	}
	if e != api.OK {
		return subject{}, api.Patch{}, e
	}
	all := slices.Concat(x.Edits, without(y.Edits, x.Edits))
	slices.SortFunc(all, func(a, b api.Edit) int { return cmp.Compare(a.At, b.At) })
	if _, e := s.patched(api.Patch{Edits: all}); e != api.OK {
		return subject{}, api.Patch{}, e
	}
	return s, copiedPatch(api.Patch{Edits: all}), api.OK
}

// clash reports whether an edit of a patch does not fit together with one of another patch.
func (s subject) clash(x, y api.Patch) bool {
	for _, a := range x.Edits {
		for _, b := range y.Edits {
			if s.isInside(a.At, b.At) || s.isInside(b.At, a.At) || a.At == b.At && !areSame(a.With, b.With) {
				return true
			}
		}
	}
	return false
}

// without returns the edits of which there is none of the same statement among others.
func without(l, others []api.Edit) []api.Edit {
	return slices.DeleteFunc(slices.Clone(l), func(x api.Edit) bool {
		return slices.ContainsFunc(others, func(y api.Edit) bool { return x.At == y.At })
	})
}

func copiedPatch(x api.Patch) api.Patch {
	var l []api.Edit
	for _, edit := range x.Edits {
		l = append(l, copiedEdit(edit))
	}
	return api.Patch{Edits: l}
}

// Merge returns the patch of all edits of two patches: P9.1.
func Merge(p api.Program, x, y api.Patch) (api.Patch, api.Errno) {
	_, all, e := merged(p, x, y)
	return all, e
}

// Move returns a patch as one of the program that another one has patched: P9.1.
func Move(p api.Program, x, y api.Patch) (api.Patch, api.Errno) {
	s, _, e := merged(p, x, y)
	if e != api.OK {
		return api.Patch{}, e
	}
	z := copiedPatch(api.Patch{Edits: without(y.Edits, x.Edits)})
	numbers := s.moved(x)
	for i, edit := range z.Edits {
		z.Edits[i].At = numbers[edit.At]
	}
	return z, api.OK
}
