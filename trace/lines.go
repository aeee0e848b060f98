package trace

import (
	"maps"
	"slices"

	"sleuth/api"
)

// Lines returns the statements of which a step has the Line: P4.4.
func (t *Trace) Lines() []int {
	all := make([]int, t.Len())
	for n := range all {
		all[n] = n
	}
	return t.Statements(all)
}

// Times returns how often a statement was begun: P4.4.
func (t *Trace) Times(line int) int {
	if !t.isMade() || line < 0 {
		return 0
	}
	chunk, start := t.start(line)
	count := 0
	for _, s := range t.steps {
		if s.Line == line && s.Chunk == chunk && s.PC == start {
			count++
		}
	}
	return count
}

// start returns the chunk of a statement, and its least address there; -1 if there is no such statement.
func (t *Trace) start(line int) (chunk, address int) {
	for chunk, c := range t.code.Chunks {
		if at := slices.IndexFunc(c.Code, func(i api.Instr) bool { return i.Line == line }); at >= 0 {
			return chunk, at
		}
	}
	return -1, -1
}

// Statements returns the Lines of steps: P4.5.
func (t *Trace) Statements(steps []int) []int {
	if !t.isMade() {
		return nil
	}
	lines := map[int]bool{}
	for _, n := range steps {
		if t.isStep(n) && t.steps[n].Line >= 0 {
			lines[t.steps[n].Line] = true
		}
	}
	return slices.Sorted(maps.Keys(lines))
}
