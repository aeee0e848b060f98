package learn

import (
	"iter"
	"slices"

	"sleuth/api"
	"sleuth/machine"
)

// start is where the code of a statement begins.
type start struct {
	address int
	first   api.Instr
}

// startOf returns where the code of a statement begins; each statement has code, all of it in one chunk.
func startOf(code api.Code, line int) start {
	for _, c := range code.Chunks {
		for at, i := range c.Code {
			if i.Line == line {
				return start{at, i}
			}
		}
	}
	return start{}
}

// beginning is a step at which a statement begins, with the registers of the frame that takes it, ahead of the step.
type beginning struct {
	step, line int
	registers  []api.Value
}

// beginnings lets a machine take so many steps, as many as it can, and tells where one of some statements begins.
func beginnings(m *machine.Machine, fuel int, lines ...int) iter.Seq[beginning] {
	code := m.Code()
	starts := map[int]start{}
	for _, line := range lines {
		starts[line] = startOf(code, line)
	}
	return func(yield func(beginning) bool) {
		for step := range fuel {
			thread, ok := m.Pick()
			if !ok {
				return
			}
			i, _ := m.Next(thread)
			// A state is a copy of all that the run has, so it is not asked for at instructions that cannot be the right ones.
			if at, ok := starts[i.Line]; ok && at.first == i {
				frames := m.State().Threads[thread].Frames
				if f := frames[len(frames)-1]; f.PC == at.address && !yield(beginning{step, i.Line, f.Regs}) {
					return
				}
			}
			m.Step()
		}
	}
}

// sample is values of registers: the numbers, and which of them are plain.
type sample struct {
	row   []int64
	plain []bool
}

func sampleOf(from []api.Value, registers []int) sample {
	var s sample
	for _, r := range registers {
		v := from[r]
		s.row = append(s.row, v.N)
		s.plain = append(s.plain, v.Kind == api.VaInt && isPlain(v.N))
	}
	return s
}

// Samples returns the values of the names at the beginnings of a statement: P8.3.
func Samples(p api.Program, n int, given []api.Given, fuel int) (names []string, rows [][]int64, e api.Errno) {
	if !isFuel(fuel) {
		return nil, nil, api.ErrArg
	}
	v, e := viewOf(p, n)
	switch {
	case e != api.OK:
		return nil, nil, e
	case len(given) > api.MaxTests:
		return nil, nil, api.ErrLimit
	}
	plain := slices.Repeat([]bool{true}, len(v.names))
	for _, g := range given {
		m, e := machine.New(p, g)
		if e != api.OK {
			return nil, nil, e
		}
		for b := range beginnings(m, fuel, n) {
			s := sampleOf(b.registers, v.registers)
			rows = append(rows, s.row)
			for i, is := range s.plain {
				plain[i] = plain[i] && is
			}
		}
	}
	names = chosen(v.names, plain)
	if len(names) == 0 {
		return nil, nil, api.OK
	}
	for i, row := range rows {
		rows[i] = chosen(row, plain)
	}
	return names, rows, api.OK
}

// chosen returns those elements of a list that are chosen.
func chosen[E any](l []E, which []bool) []E {
	var out []E
	for i, x := range l {
		if which[i] {
			out = append(out, x)
		}
	}
	return out
}

// Learn returns the contract of a statement that some runs show: P8.3.
func Learn(p api.Program, n int, given []api.Given, fuel, support int) (api.Contract, api.Errno) {
	names, rows, e := Samples(p, n, given, fuel)
	if e != api.OK {
		return api.Contract{}, e
	}
	c := api.Contract{At: n, Names: names}
	if len(names) == 0 {
		return c, api.OK
	}
	m, e := New(len(names))
	if e != api.OK {
		return api.Contract{}, e
	}
	for _, row := range rows {
		if e := m.Add(row); e != api.OK {
			return api.Contract{}, e
		}
	}
	c.Claims = m.Claims(support)
	return c, api.OK
}
