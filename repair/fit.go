package repair

import (
	"slices"

	"sleuth/api"
	"sleuth/lang"
	"sleuth/learn"
	"sleuth/machine"
	"sleuth/rank"
)

// Fit looks for an expression with which a statement makes all tests pass: P9.3.
func Fit(p api.Program, n int, tests []api.Test, domain []int64, choices, fuel, size int) (x api.Edit, found bool, e api.Errno) {
	witness, explained, e := rank.Explain(p, []int{n}, tests, domain, choices, fuel)
	if e == api.OK {
		e = checkSize(size)
	}
	if e != api.OK || !explained {
		return api.Edit{}, false, e
	}
	open, _ := rank.Open(p, []int{n}) // Explain has opened it, too
	w := watcherOf(open, n)
	for i, t := range tests {
		w.watch(api.Given{Inputs: t.Given.Inputs, Clocks: witness[i], Picks: t.Given.Picks}, fuel)
	}
	if len(w.want) == 0 {
		return api.Edit{}, false, api.OK
	}
	names, rows := w.table()
	expression, found, _ := Solve(names, rows, w.want, size)
	if !found {
		return api.Edit{}, false, api.OK
	}
	x = api.Edit{At: n, With: []api.Node{closed(open, n, expression)}}
	if CheckPatch(p, patchOf(x)) != api.OK {
		return api.Edit{}, false, api.OK
	}
	return x, true, api.OK
}

// closed returns an opened statement with an expression in the place of the chosen one.
func closed(open api.Program, n int, expression api.Node) api.Node {
	statement, _ := lang.At(open, n)
	for i, x := range statement.Subs {
		if x.Kind == api.KiClock {
			statement.Subs[i] = expression
		}
	}
	return statement
}

// watcher notes what is seen at an open statement when its value is chosen.
type watcher struct {
	open      api.Program
	names     []string
	registers []int // of the names
	seen      [][]api.Value
	want      []int64 // the values that are chosen
}

func watcherOf(open api.Program, n int) *watcher {
	w := watcher{open: open}
	w.names, _ = learn.Watched(open, n)
	named := registers(open, n)
	for _, s := range w.names {
		w.registers = append(w.registers, slices.Index(named, s))
	}
	return &w
}

// watch runs the opened program up to the last choice.
func (w *watcher) watch(g api.Given, fuel int) {
	m, e := machine.New(w.open, g)
	if e != api.OK {
		return
	}
	chosen := 0
	for range fuel {
		thread, ok := m.Pick()
		if !ok || chosen == len(g.Clocks) {
			return
		}
		if i, _ := m.Next(thread); i.Op == api.OpClock {
			frames := m.State().Threads[thread].Frames
			w.note(frames[len(frames)-1].Regs, g.Clocks[chosen])
			chosen++
		}
		m.Step()
	}
}

func (w *watcher) note(from []api.Value, chosen int64) {
	var row []api.Value
	for _, r := range w.registers {
		row = append(row, from[r])
	}
	w.seen = append(w.seen, row)
	w.want = append(w.want, chosen)
}

// table returns the names whose values are plain in all rows, and these values.
func (w *watcher) table() (names []string, rows [][]int64) {
	rows = make([][]int64, len(w.seen))
	for i, s := range w.names {
		if slices.ContainsFunc(w.seen, func(row []api.Value) bool { return !isPlain(row[i]) }) {
			continue
		}
		names = append(names, s)
		for k, row := range w.seen {
			rows[k] = append(rows[k], row[i].N)
		}
	}
	return names, rows
}

// isPlain reports whether a value is a number that claims and samples may have.
func isPlain(v api.Value) bool {
	return v.Kind == api.VaInt && -api.MaxValue <= v.N && v.N <= api.MaxValue
}

// registers returns the names of the named registers of the chunk in which a statement stands.
func registers(p api.Program, n int) []string {
	spot, _ := lang.Where(p, n)
	if !spot.Fn {
		f := p.Funcs[spot.Func]
		return slices.Concat(f.Params, declared(f.Body))
	}
	fn := closureAround(p, n)
	return slices.Concat(fn.Params, lang.Held(fn), declared(fn.Body))
}

// declared returns the names that statements declare outside of the closures in them, in the order of the text.
func declared(l []api.Node) []string {
	var names []string
	for _, n := range l {
		names = append(names, declared(n.Body)...)
		if n.Kind == api.KiLet || n.Kind == api.KiTry {
			names = append(names, n.Text)
		}
		names = append(names, declared(n.Else)...)
	}
	return names
}

// closureAround returns the closure in which a statement stands.
func closureAround(p api.Program, n int) api.Node {
	spot, _ := lang.Where(p, n)
	for spot.Part != 3 {
		spot, _ = lang.Where(p, spot.Parent)
	}
	parent, _ := lang.At(p, spot.Parent)
	behind := spot.Parent + 1 // the number behind the statements that have been passed over
	for x := range own(parent) {
		if behind += size(x.Body); n < behind {
			return x
		}
	}
	return api.Node{}
}
