package rank

import (
	"slices"

	"sleuth/api"
	"sleuth/lang"
	"sleuth/machine"
	"sleuth/record"
	"sleuth/trace"
)

// meets reports whether an outcome is what a test asks for.
func meets(o api.Outcome, t api.Test) bool {
	return o.End == api.EnDone && slices.Equal(o.Out, t.Out)
}

// Meets reports whether a run meets a test.
func Meets(p api.Program, t api.Test, fuel int) (bool, api.Errno) {
	o, e := machine.Run(p, t.Given, fuel)
	return e == api.OK && meets(o, t), e
}

func isFuel(n int) bool { return 0 <= n && n <= api.MaxSteps }

// ground is what the components of a spectrum are: how many there are, and which ones a run covers.
type ground struct {
	parts int
	hits  func(x *trace.Trace) []int // may tell a component more than once
}

// groundOf returns the components of a correct program.
func groundOf(p api.Program, b api.Base) ground {
	switch b {
	case api.BaFunction:
		return functions(p)
	case api.BaBranch:
		return branches(p)
	}
	return ground{lang.Count(p), (*trace.Trace).Lines}
}

func functions(p api.Program) ground {
	owner := make([]int, lang.Count(p))
	for n := range owner {
		spot, _ := lang.Where(p, n)
		owner[n] = spot.Func
	}
	return ground{len(p.Funcs), func(x *trace.Trace) []int { return ownersOf(x.Lines(), owner) }}
}

// branches finds the conditions in the code: each KiIf and each KiWhile has one OpBranch there.
func branches(p api.Program) ground {
	code, _ := machine.Compile(p)
	var conditions []int
	for _, c := range code.Chunks {
		for _, i := range c.Code {
			if i.Op == api.OpBranch {
				conditions = append(conditions, i.Line)
			}
		}
	}
	slices.Sort(conditions)
	return ground{2 * len(conditions), func(x *trace.Trace) []int {
		var hits []int
		for n := range x.Len() {
			v, _ := x.Event(n)
			if code.Chunks[v.Chunk].Code[v.PC].Op != api.OpBranch || v.Reads[0].Value.Kind != api.VaInt {
				continue // no branch, or one that faults
			}
			side := 2 * slices.Index(conditions, v.Line)
			if v.Reads[0].Value.N == 0 {
				side++
			}
			hits = append(hits, side)
		}
		return hits
	}}
}

// Cover returns the spectrum of some tests of a program.
func Cover(p api.Program, tests []api.Test, b api.Base, fuel int) (api.Spectrum, api.Errno) {
	switch {
	case b > api.BaBranch || !isFuel(fuel):
		return api.Spectrum{}, api.ErrArg
	case len(tests) > api.MaxTests:
		return api.Spectrum{}, api.ErrLimit
	}
	if e := lang.Check(p); e != api.OK {
		return api.Spectrum{}, e
	}
	g := groundOf(p, b)
	switch {
	case g.parts == 0:
		return api.Spectrum{}, api.ErrNone
	case g.parts > api.MaxParts:
		return api.Spectrum{}, api.ErrLimit
	}
	s := api.Spectrum{Parts: g.parts}
	for _, t := range tests {
		row, e := g.row(p, t, fuel)
		if e != api.OK {
			return api.Spectrum{}, e
		}
		s.Rows = append(s.Rows, row)
	}
	return s, api.OK
}

// row returns the row of a test of a program.
func (g ground) row(p api.Program, t api.Test, fuel int) (api.Row, api.Errno) {
	l, o, e := record.Record(p, t.Given, fuel)
	if e != api.OK {
		return api.Row{}, e
	}
	x, e := trace.Of(p, l)
	if e != api.OK {
		return api.Row{}, e
	}
	return api.Row{Hits: asSet(g.hits(x)), Fail: !meets(o, t)}, api.OK
}
