package learn

import (
	"slices"

	"sleuth/api"
)

// Shape reports whether two states are alike in shape: P8.4.
func Shape(a, b api.State) bool {
	return a.Outcome.End == api.EnNone && b.Outcome.End == api.EnNone && a.Frames == b.Frames &&
		slices.EqualFunc(a.Threads, b.Threads, areThreadsAlike) && slices.EqualFunc(a.Objects, b.Objects, areObjectsAlike)
}

func areThreadsAlike(a, b api.Thread) bool {
	return slices.EqualFunc(a.Frames, b.Frames, areFramesAlike) && (len(a.Frames) > 0 || a.Result == b.Result)
}

func areFramesAlike(a, b api.Frame) bool {
	return a.ID == b.ID && a.Chunk == b.Chunk && a.PC == b.PC && len(a.Regs) == len(b.Regs) && slices.Equal(a.Tries, b.Tries)
}

func areObjectsAlike(a, b api.Object) bool {
	return a.Chunk == b.Chunk && a.Owner == b.Owner && len(a.Cells) == len(b.Cells)
}

// slot is a place of a state, and where its value stands.
type slot struct {
	place api.Place
	value *api.Value
}

// slots returns the registers and the cells of a state, in the order of differences.
func slots(s api.State) []slot {
	var l []slot
	for _, t := range s.Threads {
		for _, f := range t.Frames {
			for r := range f.Regs {
				l = append(l, slot{api.Place{Kind: api.PlReg, A: f.ID, B: r}, &f.Regs[r]})
			}
		}
	}
	for o, object := range s.Objects {
		for c := range object.Cells {
			l = append(l, slot{api.Place{Kind: api.PlCell, A: o, B: c}, &object.Cells[c]})
		}
	}
	return l
}

// Differences returns the places at which two states differ: P8.4.
func Differences(a, b api.State) ([]api.Place, bool) {
	if !Shape(a, b) {
		return nil, false
	}
	var l []api.Place
	other := slots(b)
	for i, x := range slots(a) {
		if *x.value != *other[i].value {
			l = append(l, x.place)
		}
	}
	return l, true
}

// Mix returns a state with the values of another one at some places: P8.4.
func Mix(a, b api.State, at []api.Place) (api.State, api.Errno) {
	l, alike := Differences(a, b)
	if !alike {
		return api.State{}, api.ErrState
	}
	differs := placesOf(l)
	if slices.ContainsFunc(at, func(q api.Place) bool { return !differs[q] }) {
		return api.State{}, api.ErrNone
	}
	return mixed(a, b, at), api.OK
}

func placesOf(l []api.Place) map[api.Place]bool {
	set := map[api.Place]bool{}
	for _, q := range l {
		set[q] = true
	}
	return set
}

// mixed returns a state with the values of one that is alike in shape at some places. (Frames with the same ID share their places; where they do not differ, the other state's value is the same.)
func mixed(a, b api.State, at []api.Place) api.State {
	taken := placesOf(at)
	s := cloned(a)
	other := slots(b)
	for i, x := range slots(s) {
		if taken[x.place] {
			*x.value = *other[i].value
		}
	}
	return s
}

func cloned(s api.State) api.State {
	s.Threads = slices.Clone(s.Threads)
	for i, t := range s.Threads {
		frames := slices.Clone(t.Frames)
		for j, f := range frames {
			frames[j].Regs, frames[j].Tries = slices.Clone(f.Regs), slices.Clone(f.Tries)
		}
		s.Threads[i].Frames = frames
	}
	s.Objects = slices.Clone(s.Objects)
	for i, o := range s.Objects {
		s.Objects[i].Cells = slices.Clone(o.Cells)
	}
	s.Outcome.Out = slices.Clone(s.Outcome.Out)
	return s
}
