package repair_test

import (
	"cmp"
	"fmt"
	"slices"
	"testing"

	"sleuth/api"
	"sleuth/lang"
	"sleuth/learn"
	"sleuth/machine"
	"sleuth/repair"
)

// edit returns a random edit, which may not be one that can be.
func (m *maker) edit(p api.Program) api.Edit {
	at := m.Intn(lang.Count(p))
	own, _ := lang.At(p, at)
	other, _ := lang.At(p, m.Intn(lang.Count(p)))
	x := m.fresh("v")
	one := api.Node{Kind: api.KiNum, Num: int64(m.Intn(3))}
	shown := api.Node{Kind: api.KiPrint, Subs: []api.Node{one}}
	switch m.Intn(8) {
	case 0:
		return api.Edit{At: at}
	case 1:
		return api.Edit{At: at, With: []api.Node{own}}
	case 2:
		return api.Edit{At: at, With: []api.Node{other, own}}
	case 3:
		return api.Edit{At: at, With: []api.Node{{Kind: api.KiIf, Subs: []api.Node{one}, Body: []api.Node{own}, Else: []api.Node{shown}}}}
	case 4:
		return api.Edit{At: at, With: []api.Node{{Kind: api.KiLet, Text: x, Subs: []api.Node{{Kind: api.KiFn, Body: []api.Node{shown, shown}}}}, own}}
	case 5:
		return api.Edit{At: at, With: []api.Node{shown}}
	case 6:
		return api.Edit{At: at, With: []api.Node{other}}
	}
	return api.Edit{At: at, With: []api.Node{shown, own}}
}

// patch returns a random patch of at most so many edits.
func (m *maker) patch(p api.Program, most int) api.Patch {
	var x api.Patch
	for range m.Intn(3 * most) {
		y := patchOf(append(slices.Clip(x.Edits), m.edit(p))...)
		slices.SortFunc(y.Edits, func(a, b api.Edit) int { return cmp.Compare(a.At, b.At) })
		if len(y.Edits) <= most && repair.CheckPatch(p, y) == api.OK {
			x = y
		}
	}
	return x
}

// modelApply replaces one statement after the other, the last one first.
func modelApply(t *testing.T, p api.Program, x api.Patch) api.Program {
	t.Helper()
	for _, y := range slices.Backward(x.Edits) {
		q, e := lang.Replace(p, y.At, y.With)
		if e != api.OK {
			t.Fatalf("Replace: error %d", e)
		}
		p = q
	}
	return p
}

// isEdited reports whether a statement is one of an edit, or inside it.
func isEdited(p api.Program, x api.Patch, n int) bool {
	return slices.ContainsFunc(x.Edits, func(y api.Edit) bool {
		spot, _ := lang.Where(p, y.At)
		return y.At <= n && n < y.At+spot.Size
	})
}

// isAround reports whether an edit stands inside a statement.
func isAround(p api.Program, x api.Patch, n int) bool {
	spot, _ := lang.Where(p, n)
	return slices.ContainsFunc(x.Edits, func(y api.Edit) bool { return n < y.At && y.At < n+spot.Size })
}

// P9.1: patched programs are what replacing one statement after the other makes, and statements that move are the same ones, in the same order, in the same parts of the same ones.
func TestRandomPatches(t *testing.T) {
	edits := 0
	programs(t, 300, 10, true, func(m *maker, p api.Program) {
		x := m.patch(p, 1+m.Intn(api.MaxEdits))
		edits += len(x.Edits)
		q := applied(t, p, x)
		if !lang.Same(q, modelApply(t, p, x)) || lang.Check(q) != api.OK {
			t.Errorf("Apply(%s): %s", writtenPatch(t, x), written(t, q))
		}
		l, e := repair.Moved(p, x)
		if e != api.OK || len(l) != lang.Count(p) {
			t.Fatalf("Moved(%s): %v, error %d", writtenPatch(t, x), l, e)
		}
		last := -1
		for n, to := range l {
			if isEdited(p, x, n) {
				if to != -1 {
					t.Errorf("Moved(%s): %v, but %d is edited", writtenPatch(t, x), l, n)
				}
				continue
			}
			a, _ := lang.At(p, n)
			b, e := lang.At(q, to)
			from, _ := lang.Where(p, n)
			spot, _ := lang.Where(q, to)
			if e != api.OK || to <= last || !isAround(p, x, n) && !sameNodes([]api.Node{a}, []api.Node{b}) || a.Kind != b.Kind || from.Func != spot.Func || from.Fn != spot.Fn || from.Part != spot.Part || (from.Parent < 0) != (spot.Parent < 0) || from.Parent >= 0 && l[from.Parent] != spot.Parent {
				t.Errorf("Moved(%s): %v, but %d is no %d", writtenPatch(t, x), l, n, to)
			}
			last = to
		}
		if !slices.IsSorted(slices.DeleteFunc(slices.Clone(l), func(n int) bool { return n < 0 })) {
			t.Errorf("Moved(%s): %v", writtenPatch(t, x), l)
		}
	})
	if edits < 500 {
		t.Error("too few edits:", edits)
	}
}

// P9.4, P9.1: merging in both orders, with itself and with nothing; and moving.
func TestRandomMerges(t *testing.T) {
	merged, clashes := 0, 0
	programs(t, 500, 12, true, func(m *maker, p api.Program) {
		x, y := m.patch(p, 4), m.patch(p, 4)
		if m.Intn(2) == 0 && len(x.Edits) > 0 { // an edit of both
			y = patchOf(x.Edits[m.Intn(len(x.Edits))])
		}
		for _, z := range []api.Patch{x, {}} {
			if all, e := repair.Merge(p, x, z); e != api.OK || !samePatch(all, x) {
				t.Errorf("Merge(%s; %s): %s, error %d", writtenPatch(t, x), writtenPatch(t, z), writtenPatch(t, all), e)
			}
			if all, e := repair.Merge(p, z, x); e != api.OK || !samePatch(all, x) {
				t.Errorf("Merge(%s; %s): %s, error %d", writtenPatch(t, z), writtenPatch(t, x), writtenPatch(t, all), e)
			}
		}
		all, e := repair.Merge(p, x, y)
		again, f := repair.Merge(p, y, x)
		if e != f || !samePatch(all, again) {
			t.Errorf("Merge(%s; %s): %s, error %d, and %s, error %d", writtenPatch(t, x), writtenPatch(t, y), writtenPatch(t, all), e, writtenPatch(t, again), f)
		}
		z, f := repair.Move(p, x, y)
		if e != f {
			t.Errorf("Move(%s; %s): error %d, want %d", writtenPatch(t, x), writtenPatch(t, y), f, e)
		}
		if e != api.OK {
			clashes++
			return
		}
		if len(x.Edits) > 0 && len(y.Edits) > 0 {
			merged++
		}
		if !lang.Same(applied(t, applied(t, p, x), z), applied(t, p, all)) {
			t.Errorf("Move(%s; %s): %s", writtenPatch(t, x), writtenPatch(t, y), writtenPatch(t, z))
		}
		for _, a := range slices.Concat(x.Edits, y.Edits) {
			if !slices.ContainsFunc(all.Edits, func(b api.Edit) bool { return a.At == b.At && sameNodes(a.With, b.With) }) {
				t.Errorf("Merge(%s; %s): %s", writtenPatch(t, x), writtenPatch(t, y), writtenPatch(t, all))
			}
		}
		if e := repair.CheckPatch(p, all); e != api.OK || len(all.Edits) > len(x.Edits)+len(y.Edits) {
			t.Errorf("Merge(%s; %s): %s is no patch", writtenPatch(t, x), writtenPatch(t, y), writtenPatch(t, all))
		}
	})
	if merged < 100 || clashes < 50 {
		t.Error("too few cases:", merged, clashes)
	}
}

const fuel = 400

// suite returns a random suite for a program: tests that it meets and such as it does not, contracts learned from runs, and such as are broken.
func (m *maker) suite(t *testing.T, p api.Program) api.Suite {
	s := api.Suite{Fuel: fuel - m.Intn(4)/3*(fuel-40), Inputs: m.Intn(4)}
	for v := range int64(4) {
		if m.Intn(2) == 0 {
			s.Domain = append(s.Domain, v-1)
		}
	}
	for range m.Intn(4) {
		g := m.given()
		o, e := machine.Run(p, g, fuel)
		if e != api.OK {
			t.Fatal(e)
		}
		if m.Intn(3) == 0 {
			o.Out = append(o.Out, 1)
		}
		s.Tests = append(s.Tests, api.Test{Given: g, Out: o.Out})
	}
	for range m.Intn(4) {
		c, e := learn.Learn(p, m.Intn(lang.Count(p)), []api.Given{m.given(), m.given(), m.given()}, fuel, 1)
		if e != api.OK {
			t.Fatal(e)
		}
		if len(c.Claims) > 3 {
			c.Claims = c.Claims[:3]
		}
		s.Contracts = append(s.Contracts, c)
	}
	return s
}

// describe writes a suite.
func describe(s api.Suite) string { return fmt.Sprintf("%+v", s) }
