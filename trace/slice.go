package trace

import (
	"cmp"
	"slices"

	"sleuth/api"
)

// Kind is a kind of slices: each one follows what those above it follow, and more.
type Kind uint8

// Kinds of slices.
const (
	Thin     Kind = 0 // values
	Data     Kind = 1 // and addresses
	Full     Kind = 2 // and decisions
	Relevant Kind = 3 // and decisions that, taken otherwise, might have written what is read
)

// follows reports whether a slice of the kind follows reads with a role from any of its steps.
func (k Kind) follows(r api.Role) bool {
	switch r {
	case api.RoValue:
		return true
	case api.RoAddress:
		return k >= Data
	case api.RoTest:
		return k >= Full
	}
	return false
}

// grown returns the least set that has a first element, and with each element all those to which it leads; ascending.
func grown[T cmp.Ordered](first T, leads func(from T, add func(T))) []T {
	set := map[T]bool{first: true}
	list := []T{first}
	for i := 0; i < len(list); i++ { // the list becomes longer meanwhile
		leads(list[i], func(x T) {
			if !set[x] {
				set[x] = true
				list = append(list, x)
			}
		})
	}
	slices.Sort(list)
	return list
}

// Slice returns the steps on which a step depends: P4.5.
func (t *Trace) Slice(n int, k Kind) ([]int, api.Errno) {
	if e := t.stepError(n); e != api.OK {
		return nil, e
	}
	if k > Relevant {
		return nil, api.ErrArg
	}
	var left chances
	if k == Relevant {
		left = t.chances(n)
	}
	return grown(n, func(m int, add func(int)) {
		s := &t.steps[m]
		for _, r := range s.Reads {
			if r.From >= 0 && (k.follows(r.Role) || m == n && r.Role == api.RoTest) {
				add(r.From)
			}
			if k == Relevant {
				left.take(m, s.Thread, r, add)
			}
		}
		if k >= Full && s.Control >= 0 {
			add(s.Control)
		}
	}), api.OK
}

// chance is something that the other side of an OpBranch step might have written: a register, or, without numbers, some cell.
type chance struct {
	thread int
	place  api.Place
}

// chances are the OpBranch steps that might have written something, ascending.
type chances map[chance][]int

// chances returns the chances of the steps ahead of one.
func (t *Trace) chances(n int) chances {
	all := chances{}
	for b := range n {
		s := &t.steps[b]
		if s.instr.Op != api.OpBranch {
			continue
		}
		code := t.code.Chunks[s.Chunk].Code
		side := s.otherSide(code)
		for _, i := range code[side.from:side.to] {
			if q, ok := assigned(i, named(code), s.Frame); ok {
				all.add(chance{s.Thread, q}, b)
			}
		}
	}
	return all
}

// add adds a step, which may be the last one that was added, to a chance.
func (all chances) add(c chance, b int) {
	if list := all[c]; len(list) == 0 || list[len(list)-1] != b {
		all[c] = append(list, b)
	}
}

// otherSide returns the code of the statements to which an OpBranch step did not lead.
func (s *step) otherSide(code []api.Instr) block {
	f := forkAt(code, s.PC)
	if s.Reads[0].Value.N == 0 {
		return f.body
	}
	return f.other
}

// named returns how many named registers a chunk has: its last instruction uses the one behind them.
func named(code []api.Instr) int { return code[len(code)-1].D }

// assigned returns the place that a KiLet, KiSet, KiTry or KiStore writes, if an instruction is the one by which it does so.
func assigned(i api.Instr, named, frame int) (api.Place, bool) {
	switch {
	case i.Op == api.OpStore:
		return api.Place{Kind: api.PlCell}, true
	case i.Op == api.OpTry:
		return register(frame, i.B), true
	case i.Op == api.OpMove && i.D < named:
		return register(frame, i.D), true
	}
	return api.Place{}, false
}

// take adds the steps that might have written what step m reads. They are in the set then, and need not be told again.
func (all chances) take(m, thread int, r api.Read, add func(int)) {
	c := chance{thread, r.Place}
	if r.Place.Kind == api.PlCell {
		c.place = api.Place{Kind: api.PlCell}
	}
	list := all[c]
	from, _ := slices.BinarySearch(list, r.From+1)
	to, _ := slices.BinarySearch(list, m)
	if from == to {
		return
	}
	for _, b := range list[from:to] {
		add(b)
	}
	all[c] = slices.Delete(list, from, to)
}
