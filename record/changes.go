package record

import (
	"cmp"
	"slices"

	"sleuth/api"
)

// writes is what has been found to be other.
type writes []api.Write

func (w *writes) put(kind api.PlaceKind, a, b int, v api.Value) {
	*w = append(*w, api.Write{Place: api.Place{Kind: kind, A: a, B: b}, Value: v})
}

// others puts those of some values that are other than before, or were not there.
func (w *writes) others(kind api.PlaceKind, a int, before, after []api.Value) {
	for b, v := range after {
		if b >= len(before) || before[b] != v {
			w.put(kind, a, b, v)
		}
	}
}

// changes returns what is other in a state than in the one a step before.
func changes(before, after api.State) []api.Write {
	var w writes
	old, now := framesOf(before), framesOf(after)
	for _, f := range now {
		if i, ok := find(old, f.ID); ok {
			w.others(api.PlReg, f.ID, old[i].Regs, f.Regs)
		}
	}
	w.objects(before.Objects, after.Objects)
	for _, f := range now {
		if _, ok := find(old, f.ID); !ok {
			w.others(api.PlReg, f.ID, nil, f.Regs)
		}
	}
	for i := len(before.Outcome.Out); i < len(after.Outcome.Out); i++ {
		w.put(api.PlOut, i, 0, number(after.Outcome.Out[i]))
	}
	return w
}

// objects puts what is other in objects, and then new ones.
func (w *writes) objects(before, after []api.Object) {
	for i, old := range before {
		w.others(api.PlCell, i, old.Cells, after[i].Cells)
		if after[i].Owner != old.Owner {
			w.put(api.PlLock, i, 0, number(int64(after[i].Owner)))
		}
	}
	for i := len(before); i < len(after); i++ {
		w.put(api.PlLen, i, 0, number(int64(len(after[i].Cells))))
		w.others(api.PlCell, i, nil, after[i].Cells)
	}
}

func number(n int64) api.Value { return api.Value{Kind: api.VaInt, N: n} }

// framesOf returns the frames of all threads, by their IDs.
func framesOf(s api.State) []api.Frame {
	var list []api.Frame
	for _, t := range s.Threads {
		list = append(list, t.Frames...)
	}
	slices.SortFunc(list, func(a, b api.Frame) int { return cmp.Compare(a.ID, b.ID) })
	return list
}

// find returns where the frame with an ID stands.
func find(frames []api.Frame, id int) (int, bool) {
	return slices.BinarySearchFunc(frames, id, func(f api.Frame, id int) int { return cmp.Compare(f.ID, id) })
}
