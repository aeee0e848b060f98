package slice_test

import (
	"slices"
	"testing"

	"sleuth/api"
	"sleuth/lang"
	"sleuth/machine"
	"sleuth/record"
	"sleuth/slice"
	"sleuth/trace"
)

// some returns some of the statements of a program, ascending.
func (m *maker) some(p api.Program) []int {
	var l []int
	count := lang.Count(p)
	for n := range count {
		if m.Intn(count) < 2 {
			l = append(l, n)
		}
	}
	return l
}

// P5.1, P5.2, P5.3: what is told of random programs is what the model reads from their code.
func TestRandomTold(t *testing.T) {
	closures, throws := 0, 0
	programs(t, 300, func(_ *maker, p api.Program) {
		x := modelOf(t, p)
		units, of, e := slice.Units(p)
		effects, f := slice.Effects(p)
		if e != api.OK || f != api.OK || units != len(x.code.Chunks) || len(of) != len(x.effects) || len(effects) != len(x.effects) {
			t.Fatalf("errors %d and %d, %d units, %d effects", e, f, units, len(effects))
		}
		for n, want := range x.effects {
			if of[n] != want.Unit || !sameEffect(effects[n], want) {
				t.Errorf("statement %d: unit %d, %+v, want %+v", n, of[n], effects[n], want)
			}
			ordinary, thrown, e := slice.Leads(p, n)
			if e != api.OK || !slices.Equal(ordinary, x.leads[0][n].list()) || !slices.Equal(thrown, x.leads[1][n].list()) {
				t.Errorf("Leads(%d): error %d, %v, %v, want %v", n, e, ordinary, thrown, x.leads)
			}
		}
		functions, any, e := slice.Throwing(p)
		if e != api.OK || !slices.Equal(append(functions, any), x.throwing) {
			t.Errorf("Throwing: error %d, %v, %t, want %v", e, functions, any, x.throwing)
		}
		if any {
			throws++
		}
		closures += units - len(p.Funcs)
	})
	if closures < 300 || throws < 40 {
		t.Errorf("only %d closures, only %d programs whose closures may throw", closures, throws)
	}
}

// P5.3: what reaches the statements of random programs is what the model finds by going back.
func TestRandomReaching(t *testing.T) {
	found, missing := 0, 0
	programs(t, 100, func(_ *maker, p api.Program) {
		x := modelOf(t, p)
		for n, y := range x.effects {
			for _, name := range append(y.Reads, y.Sets, "v1", "nobody") {
				want := x.reaching(n, name)
				l, e := slice.Reaching(p, n, name)
				if e != api.OK || !slices.Equal(l, want) {
					t.Errorf("Reaching(%d, %s): error %d, %v, want %v", n, name, e, l, want)
				}
				found += len(l)
				missing += len(x.all(func(d int, y slice.Effect) bool { return x.defines(d, name) })) - len(l)
			}
		}
	})
	if found < 2000 || missing < 2000 {
		t.Errorf("only %d definitions that reach a statement, and %d that do not", found, missing)
	}
}

// P5.4, P5.5, P5.6, P5.7: the sets of random programs are those of the model.
func TestRandomSets(t *testing.T) {
	programs(t, 300, func(m *maker, p api.Program) {
		x := modelOf(t, p)
		for _, k := range kinds {
			needs := x.allNeeds(k)
			if l, e := slice.Needs(p, k); e != api.OK || !sameLists(l, needs) {
				t.Errorf("Needs(%d): error %d, %v, want %v", k, e, l, needs)
			}
			from, to := m.some(p), m.some(p)
			back, against := modelSlice(needs, to...), modelSlice(needs, from...)
			ahead := x.all(func(n int, _ slice.Effect) bool {
				return slices.ContainsFunc(modelSlice(needs, n), func(i int) bool { return slices.Contains(from, i) })
			})
			prints := printsOf(p)
			all := modelSlice(needs, prints...)
			check := func(what string, l []int, e api.Errno, want []int) {
				if e != api.OK || !slices.Equal(l, want) {
					t.Errorf("%s(%d) of %v and %v: error %d, %v, want %v", what, k, from, to, e, l, want)
				}
			}
			l, e := slice.Backward(p, k, to)
			check("Backward", l, e, back)
			l, e = slice.Forward(p, k, from)
			check("Forward", l, e, ahead)
			l, e = slice.Chop(p, k, from, to)
			check("Chop", l, e, x.all(func(n int, _ slice.Effect) bool { return slices.Contains(ahead, n) && slices.Contains(back, n) }))
			l, e = slice.Dice(p, k, to, from)
			check("Dice", l, e, x.all(func(n int, _ slice.Effect) bool { return slices.Contains(back, n) && !slices.Contains(against, n) }))
			l, e = slice.Barren(p, k)
			check("Barren", l, e, x.all(func(n int, _ slice.Effect) bool { return !slices.Contains(all, n) }))
			_, l, e = slice.Program(p, k, to)
			check("Program", l, e, back)
		}
	})
}

// P5.6: the groups of random programs are those of the model; half of the programs consist of parts that do not touch one another.
func TestRandomGroups(t *testing.T) {
	several := 0
	programs(t, 300, func(m *maker, p api.Program) {
		if m.Intn(2) == 0 {
			p = m.apart(t)
		}
		x := modelOf(t, p)
		for _, k := range kinds {
			want := modelGroups(x.allNeeds(k), printsOf(p))
			l, e := slice.Groups(p, k)
			if e != api.OK || !sameLists(l, want) {
				s, _ := lang.Print(p)
				t.Errorf("Groups(%d): error %d, %v, want %v in %s", k, e, l, want, s)
			}
			if len(l) > 1 {
				several++
			}
		}
	})
	if several < 50 {
		t.Errorf("only %d programs with several groups", several)
	}
}

// apart returns a program whose statements copy names to one another, and print them.
func (m *maker) apart(t *testing.T) api.Program {
	s := ""
	for _, name := range []string{"a", "b", "c", "d", "e", "f"} {
		s += "let " + name + " = 1; "
	}
	name := func() string { return m.of("a", "b", "c", "d", "e", "f") }
	for range 3 + m.Intn(8) {
		s += m.of("print "+name()+"; ", name()+" = "+name()+"; ", "if "+name()+" { print "+name()+"; } ")
	}
	return parsed(t, main(s))
}

// shown is what a run of a program printed, by statements.
type shown struct {
	outcome api.Outcome
	prints  map[int][]int64
}

// run runs a program, and looks after each step whether the output became longer.
func run(t *testing.T, p api.Program, g api.Given, fuel int) shown {
	t.Helper()
	x, e := machine.New(p, g)
	if e != api.OK {
		t.Fatalf("New: error %d", e)
	}
	s := shown{prints: map[int][]int64{}}
	for range fuel {
		i, e := x.Next(0)
		if e != api.OK {
			break
		}
		x.Step()
		if i.Op != api.OpPrint {
			continue
		}
		if out := x.State().Outcome.Out; len(out) > len(s.outcome.Out) {
			s.outcome.Out = out
			s.prints[i.Line] = append(s.prints[i.Line], out[len(out)-1])
		}
	}
	s.outcome = x.State().Outcome
	if s.outcome.End == api.EnNone {
		s.outcome.End = api.EnFuel
	}
	return s
}

func sameOutcome(a, b api.Outcome) bool {
	return a.End == b.End && a.Fault == b.Fault && a.Line == b.Line && a.Value == b.Value && a.Steps == b.Steps && slices.Equal(a.Out, b.Out)
}

// P5.8, P5.9, P0.4: the program of a slice prints what the whole program prints there, in at most as many steps; Printed and Agree tell that.
func TestRandomAgree(t *testing.T) {
	done, occurrences, smaller := 0, 0, 0
	programs(t, 800, func(m *maker, p api.Program) {
		g := m.given()
		whole := run(t, p, g, 3000)
		prints := printsOf(p)
		if whole.outcome.End == api.EnDone {
			done++
		}
		for _, of := range [][]int{{prints[m.Intn(len(prints))]}, m.some(p), prints} {
			for _, k := range kinds {
				if is, e := slice.Agree(p, k, of, g, 3000); e != api.OK || !is {
					t.Errorf("Agree(%d, %v): error %d, %t", k, of, e, is)
				}
				if whole.outcome.End != api.EnDone {
					continue
				}
				q, l := cut(t, p, k, of...)
				part := run(t, q, g, 3000)
				if part.outcome.End != api.EnDone || part.outcome.Steps > whole.outcome.Steps {
					t.Errorf("the slice %d for %v: %+v, not %+v", k, of, part.outcome, whole.outcome)
				}
				if part.outcome.Steps < whole.outcome.Steps {
					smaller++
				}
				for _, n := range of {
					if !slices.Equal(part.prints[slices.Index(l, n)], whole.prints[n]) {
						t.Errorf("the slice %d for %v prints %v at %d, not %v", k, of, part.prints[slices.Index(l, n)], n, whole.prints[n])
					}
					occurrences += len(whole.prints[n])
				}
			}
		}
		for _, n := range prints {
			l, o, e := slice.Printed(p, g, 3000, n)
			if e != api.OK || !slices.Equal(l, whole.prints[n]) || !sameOutcome(o, whole.outcome) {
				t.Errorf("Printed(%d): error %d, %v, %+v, want %v, %+v", n, e, l, o, whole.prints[n], whole.outcome)
			}
		}
	})
	if done < 500 || occurrences < 3500 || smaller < 2500 {
		t.Errorf("only %d runs that are done, %d numbers printed, %d runs that are shorter", done, occurrences, smaller)
	}
}

// P5.9: what follows from the definition of slices.
func TestRandomSlices(t *testing.T) {
	programs(t, 60, func(m *maker, p api.Program) {
		a, b := m.some(p), m.some(p)
		both := slices.Concat(a, b)
		slices.Sort(both)
		both = slices.Compact(both)
		if !isWithin(backward(t, p, slice.Fine, a...), backward(t, p, slice.Coarse, a...)) {
			t.Errorf("the fine slice for %v is not in the coarse one", a)
		}
		for _, k := range kinds {
			x, y := backward(t, p, k, a...), backward(t, p, k, b...)
			if !slices.Equal(backward(t, p, k, x...), x) {
				t.Errorf("%d: the slice of the slice for %v is another one", k, a)
			}
			union := slices.Concat(x, y)
			slices.Sort(union)
			if !slices.Equal(backward(t, p, k, both...), slices.Compact(union)) {
				t.Errorf("%d: the slice for %v and %v is not the union", k, a, b)
			}
			n := m.Intn(lang.Count(p))
			for of, list := range map[string][]int{"Forward": forward(t, p, k, n), "Backward": backward(t, p, k, n)} {
				for i := range lang.Count(p) {
					other := backward(t, p, k, i)
					if of == "Backward" {
						other = forward(t, p, k, i)
					}
					if slices.Contains(list, i) != slices.Contains(other, n) {
						t.Errorf("%s(%d, %d) is not as that of %d the other way", of, k, n, i)
					}
				}
			}
		}
	})
}

// P5.7, P5.9: the program of a slice is correct and in scope, consists of what it should, and is its own slice if there are no closures.
func TestRandomPrograms(t *testing.T) {
	own, strange := 0, 0
	programs(t, 500, func(m *maker, p api.Program) {
		of := m.some(p)
		units, _, _ := slice.Units(p)
		for _, k := range kinds {
			q, l := cut(t, p, k, of...)
			if e := slice.Scope(q); e != api.OK || len(l) != lang.Count(q) || len(q.Funcs) != len(p.Funcs) || !isWithin(of, l) {
				t.Fatalf("Program(%d, %v): Scope %d, %v", k, of, e, l)
			}
			var again []int
			for i, n := range l {
				a, _ := lang.At(q, i)
				b, _ := lang.At(p, n)
				x, _ := lang.Where(q, i)
				y, _ := lang.Where(p, n)
				if a.Kind != b.Kind || a.Text != b.Text || x.Func != y.Func || x.Fn != y.Fn || x.Part != y.Part || (x.Parent < 0) != (y.Parent < 0) || x.Parent >= 0 && l[x.Parent] != y.Parent {
					t.Errorf("statement %d of Program(%d, %v) is %+v, not %d", i, k, of, a, n)
				}
				if slices.Contains(of, n) {
					again = append(again, i)
				}
			}
			_, all := cut(t, q, k, again...)
			switch whole := slices.Equal(all, until(len(l))); {
			case units == len(p.Funcs) && !whole:
				t.Errorf("Program(%d, %v): the slice of the slice is %v", k, of, all)
			case units == len(p.Funcs):
				own++
			case !whole:
				strange++
			}
		}
	})
	if own < 200 || strange == 0 {
		t.Errorf("only %d slices without closures, %d with less in the slice of the slice", own, strange)
	}
}

// P0.4: dynamic slices lie in static ones, and what reached a read in a run is told to reach it.
func TestDynamicSlices(t *testing.T) {
	steps := 0
	programs(t, 400, func(m *maker, p api.Program) {
		l, _, e := record.Record(p, m.given(), 300)
		if e != api.OK {
			t.Fatalf("Record: error %d", e)
		}
		r, e := trace.Of(p, l)
		if e != api.OK {
			t.Fatalf("Of: error %d", e)
		}
		kind := trace.Relevant
		if m.closures { // whose cells count there as cells that a KiStore might have written, though no KiLoad reads them
			kind = trace.Full
		}
		for n := m.Intn(20); n < r.Len(); n += 1 + m.Intn(20) {
			v, _ := r.Event(n)
			lines, e := r.Slice(n, kind)
			if got := r.Statements(lines); e != api.OK || v.Line >= 0 && !isWithin(got, backward(t, p, slice.Fine, v.Line)) {
				t.Errorf("step %d, statement %d: %v is not in the static slice", n, v.Line, got)
			}
			steps++
		}
		x := modelOf(t, p)
		for n := range r.Len() {
			v, _ := r.Event(n)
			for _, q := range v.Reads {
				if q.From < 0 || v.Line < 0 || q.Place.Kind != api.PlReg || v.Frame != q.Place.A {
					continue
				}
				w, _ := r.Event(q.From)
				if i := x.code.Chunks[w.Chunk].Code[w.PC]; w.Frame != v.Frame || w.Line < 0 || i.Op != api.OpMove || i.D != q.Place.B || x.kinds[w.Line] == api.KiTry {
					continue
				}
				if name := x.effects[w.Line].Sets; name != "" && slices.Contains(x.effects[v.Line].Reads, name) && w.Line != v.Line && !slices.Contains(x.reaching(v.Line, name), w.Line) {
					t.Errorf("step %d: %s comes from statement %d, which does not reach %d", n, name, w.Line, v.Line)
				}
			}
		}
	})
	if steps < 3500 {
		t.Errorf("only %d steps", steps)
	}
}

// P5.3: the statements that begin in a frame of a run one behind the other are ways.
func TestRandomWays(t *testing.T) {
	caught := 0
	programs(t, 250, func(m *maker, p api.Program) {
		x := modelOf(t, p)
		y, _ := machine.New(p, m.given())
		last := map[int]int{} // of each frame, the statement that began last
		for range 1000 {
			s := y.State()
			if len(s.Threads[0].Frames) == 0 || s.Outcome.End != api.EnNone {
				break
			}
			f := s.Threads[0].Frames[len(s.Threads[0].Frames)-1]
			i := x.code.Chunks[f.Chunk].Code[f.PC]
			y.Step()
			if i.Line >= 0 && x.starts[i.Line] != f.PC {
				continue
			}
			from, begun := last[f.ID]
			last[f.ID] = i.Line
			if !begun || from < 0 {
				continue
			}
			ordinary, thrown, e := slice.Leads(p, from)
			switch {
			case e != api.OK || !slices.Contains(ordinary, i.Line) && !slices.Contains(thrown, i.Line):
				t.Errorf("statement %d follows %d in a run: Leads error %d, %v, %v", i.Line, from, e, ordinary, thrown)
			case !slices.Contains(ordinary, i.Line):
				caught++
			}
		}
	})
	if caught < 50 {
		t.Errorf("only %d throws that are caught", caught)
	}
}
