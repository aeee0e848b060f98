package machine

import (
	"slices"

	"sleuth/api"
)

// fits reports whether a state fits the code of a program and what is given.
func fits(code api.Code, g api.Given, s api.State) bool {
	return isWithin(s.Inputs, 0, len(g.Inputs)) && isWithin(s.Clocks, 0, len(g.Clocks)) &&
		isOpen(s.Outcome) && isWithin(s.Frames, 1, s.Outcome.Steps+1) &&
		isWithin(len(s.Threads), 1, api.MaxThreads) && len(s.Threads[0].Frames) > 0 &&
		fitObjects(code, s) && fitThreads(code, s)
}

func isWithin(n, least, most int) bool { return least <= n && n <= most }

// isOpen reports whether an outcome may be that of a run that is not over.
func isOpen(o api.Outcome) bool {
	return o.End == api.EnNone && o.Fault == api.FaNone && o.Line == 0 && o.Value == number(0) &&
		len(o.Out) <= api.MaxOut && isWithin(o.Steps, 0, api.MaxSteps)
}

func fitObjects(code api.Code, s api.State) bool {
	if len(s.Objects) > api.MaxObjects || cellsOf(s.Objects) > api.MaxCells {
		return false
	}
	for _, o := range s.Objects {
		if !isWithin(o.Owner, -1, len(s.Threads)-1) || !fitValues(o.Cells, s.Objects) {
			return false
		}
		if o.Chunk != -1 && (!isClosure(code, o.Chunk) || code.Chunks[o.Chunk].Held != len(o.Cells)) {
			return false
		}
	}
	return true
}

func cellsOf(objects []api.Object) int {
	count := 0
	for _, o := range objects {
		count += len(o.Cells)
	}
	return count
}

func isChunk(code api.Code, n int) bool { return isWithin(n, 0, len(code.Chunks)-1) }

func isClosure(code api.Code, n int) bool { return isChunk(code, n) && code.Chunks[n].Name == "" }

func fitValues(l []api.Value, objects []api.Object) bool {
	return !slices.ContainsFunc(l, func(v api.Value) bool { return !fitsValue(v, objects) })
}

func fitsValue(v api.Value, objects []api.Object) bool {
	if isNumber(v) {
		return true
	}
	if v.N < 0 || v.N >= int64(len(objects)) {
		return false
	}
	switch v.Kind {
	case api.VaRef:
		return objects[v.N].Chunk == -1
	case api.VaFun:
		return objects[v.N].Chunk != -1
	}
	return false
}

func fitThreads(code api.Code, s api.State) bool {
	seen := map[int]bool{}
	for _, t := range s.Threads {
		if len(t.Frames) > api.MaxFrames || !fitsValue(t.Result, s.Objects) || len(t.Frames) > 0 && t.Result != number(0) {
			return false
		}
		for i, f := range t.Frames {
			if !isWithin(f.ID, 0, s.Frames-1) || seen[f.ID] || !fitsFrame(code, f, s.Objects) {
				return false
			}
			if i < len(t.Frames)-1 && !isCalling(code, f) {
				return false
			}
			seen[f.ID] = true
		}
	}
	return true
}

func fitsFrame(code api.Code, f api.Frame, objects []api.Object) bool {
	if !isChunk(code, f.Chunk) {
		return false
	}
	c := code.Chunks[f.Chunk]
	return isWithin(f.PC, 0, len(c.Code)-1) && len(f.Regs) == c.Regs && fitValues(f.Regs, objects) && slices.Equal(f.Tries, handlers(c.Code, f.PC))
}

// isCalling reports whether a call, or the apply of a closure, stands ahead of the address at which a frame goes on.
func isCalling(code api.Code, f api.Frame) bool {
	if f.PC == 0 {
		return false
	}
	op := code.Chunks[f.Chunk].Code[f.PC-1].Op
	return op == api.OpCall || op == api.OpApply
}

// handlers returns those that a frame has at an address.
func handlers(code []api.Instr, pc int) []api.Handler {
	var l []api.Handler
	for _, i := range code[:pc] {
		if i.Op == api.OpTry && i.A > pc+1 {
			l = append(l, api.Handler{To: i.A, Reg: i.B})
		}
	}
	return l
}
