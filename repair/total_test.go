package repair_test

import (
	"fmt"
	"math/rand"
	"slices"
	"strings"
	"testing"

	"sleuth/api"
	"sleuth/lang"
	"sleuth/repair"
)

// The chapter's own examples.
func TestExamples(t *testing.T) {
	if l, e := repair.Runs(api.Suite{Domain: wide("0 1"), Inputs: 2}); e != api.OK || !sameRows(l, table("0 0, 0 1, 1 0, 1 1")) {
		t.Error(l, e)
	}
	if s := solved(t, names("x y"), table("1 2, 3 5"), wide("3 8"), 3); s != "x + y" {
		t.Error(s)
	}
	if s := withs(t, templates(t, parsed(t, "fun main() { print 1 + 2; }"), 0), 0); s != "print 1 - 2; | print 1 * 2; | print 1 / 2; | print 1 % 2; | print 2 + 2; | print 0 + 2; | print 1 + 3; | print 1 + 1; | -" {
		t.Error(s)
	}
	n, e := repair.Condition(inv(api.ClMod, 0, 0, 1, 3), names("x"))
	if s := expression(t, n); e != api.OK || !sameNodes([]api.Node{n}, []api.Node{statements(t, "(x % 3 + 3) % 3 == 1;")[0].Subs[0]}) {
		t.Error(s, e)
	}
}

// R3: a nil list and an empty one are the same.
func TestEmptyLists(t *testing.T) {
	p := body(t, "let a = 1; print a;")
	none := api.Patch{Edits: []api.Edit{}}
	left, out := patchOf(api.Edit{At: 1}), patchOf(api.Edit{At: 1, With: []api.Node{}})
	if m, e := repair.Merge(p, left, out); e != api.OK || !samePatch(m, left) {
		t.Error(m, e)
	}
	if m, e := repair.Move(p, left, out); e != api.OK || len(m.Edits) > 0 {
		t.Error(m, e)
	}
	a := patchOf(api.Edit{At: 1, With: []api.Node{{Kind: api.KiPrint, Subs: []api.Node{{Kind: api.KiCall, Text: "main"}}}}})
	b := patchOf(api.Edit{At: 1, With: []api.Node{{Kind: api.KiPrint, Subs: []api.Node{{Kind: api.KiCall, Text: "main", Subs: []api.Node{}, Params: []string{}}}, Body: []api.Node{}, Else: []api.Node{}}}})
	if m, e := repair.Merge(p, a, b); e != api.OK || len(m.Edits) != 1 {
		t.Error(m, e)
	}
	s := api.Suite{Tests: []api.Test{{Given: api.Given{Inputs: []int64{}, Clocks: []int64{}, Picks: []uint8{}}, Out: []int64{}}}, Contracts: []api.Contract{}, Domain: []int64{}, Fuel: 9}
	if j := judged(t, p, none, s); !sameJudgement(j, api.Judgement{Failed: []int{0}}) {
		t.Error(j)
	}
	if j := judged(t, p, left, s); !sameJudgement(j, api.Judgement{Changed: []int{0}, Worse: []int{0}}) {
		t.Error(j)
	}
	if l := repaired(t, p, s, []int{1}, 1); len(l) != 1 {
		t.Error(l)
	}
	if n, found, e := repair.Solve([]string{}, [][]int64{}, []int64{}, 1); !found || e != api.OK || n.Kind != api.KiNum {
		t.Error(n, found, e)
	}
	if _, found, e := repair.Fit(p, 1, []api.Test{}, []int64{1}, 1, 9, 1); found || e != api.OK {
		t.Error(found, e)
	}
	if l := guards(t, p, api.Contract{At: 1, Names: []string{}, Claims: []api.Invariant{}}); len(l) > 0 {
		t.Error(l)
	}
}

// spare returns a list with memory behind it that nobody may touch.
func spare[T any](l []T, behind T) []T { return append(slices.Clip(l), behind, behind)[:len(l)] }

// spoil overwrites the memory of a list, and what is behind it.
func spoil[T any](l []T, with T) {
	for i := range l[:cap(l)] {
		l[:cap(l)][i] = with
	}
}

// spoilNodes overwrites all memory that nodes have.
func spoilNodes(l []api.Node) {
	for _, n := range l {
		spoilNodes(n.Subs)
		spoilNodes(n.Body)
		spoilNodes(n.Else)
		spoil(n.Params, "?")
	}
	spoil(l, api.Node{Kind: 99})
}

func spoilEdits(l []api.Edit) {
	for _, x := range l {
		spoilNodes(x.With)
	}
	spoil(l, api.Edit{At: -99})
}

func spoilProgram(p api.Program) {
	for _, f := range p.Funcs {
		spoilNodes(f.Body)
		spoil(f.Params, "?")
	}
	spoil(p.Funcs, api.Func{})
}

func spoilJudgement(j api.Judgement) {
	for _, l := range [][]int{j.Failed, j.Broken, j.Lost, j.Changed, j.Worse} {
		spoil(l, -99)
	}
}

// spared returns nodes with memory behind each list.
func spared(l []api.Node) []api.Node {
	if len(l) == 0 {
		return nil
	}
	l = spare(l, api.Node{Kind: 77})
	for i, n := range l {
		l[i].Subs, l[i].Body, l[i].Else, l[i].Params = spared(n.Subs), spared(n.Body), spared(n.Else), spare(n.Params, "?")
	}
	return l
}

// whole writes nodes, and what stands behind their lists.
func whole(l []api.Node) string {
	var s strings.Builder
	for i, n := range l[:cap(l)] {
		fmt.Fprint(&s, n)
		if i < len(l) {
			s.WriteString(whole(n.Subs) + whole(n.Body) + whole(n.Else) + fmt.Sprint(n.Params[:cap(n.Params)]))
		}
	}
	return s.String()
}

// arguments is what the functions are given to see whether they change it.
type arguments struct {
	p         api.Program
	x, y      api.Patch
	s         api.Suite
	at        []int
	claims    []api.Invariant
	names     []string
	rows      [][]int64
	want      []int64
	judgement api.Judgement
}

// String tells also what stands behind the lists.
func (a arguments) String() string {
	var s strings.Builder
	for _, f := range a.p.Funcs[:cap(a.p.Funcs)] {
		s.WriteString(f.Name + fmt.Sprint(f.Params[:cap(f.Params)]) + whole(f.Body))
	}
	for _, x := range []api.Patch{a.x, a.y} {
		for _, y := range x.Edits[:cap(x.Edits)] {
			s.WriteString(fmt.Sprint(y.At) + whole(y.With))
		}
	}
	fmt.Fprint(&s, a.s.Tests[:cap(a.s.Tests)], a.s.Contracts[:cap(a.s.Contracts)], a.s.Domain[:cap(a.s.Domain)], a.s.Inputs, a.s.Fuel)
	for _, x := range a.s.Tests {
		fmt.Fprint(&s, x.Given.Inputs[:cap(x.Given.Inputs)], x.Out[:cap(x.Out)])
	}
	for _, c := range a.s.Contracts {
		fmt.Fprint(&s, c.Names[:cap(c.Names)], c.Claims[:cap(c.Claims)])
	}
	fmt.Fprint(&s, a.at[:cap(a.at)], a.claims, a.names[:cap(a.names)], a.rows, a.want[:cap(a.want)], a.judgement)
	return s.String()
}

// everything returns what all functions return for some arguments, as a text, and spoils it then.
func everything(a arguments) string {
	var s strings.Builder
	tell := func(l ...any) { fmt.Fprintln(&s, l...) }
	q, e := repair.Apply(a.p, a.x)
	tell(repair.CheckPatch(a.p, a.x), q, e)
	spoilProgram(q)
	moved, e := repair.Moved(a.p, a.x)
	tell(moved, e)
	spoil(moved, -99)
	for _, f := range []func(api.Program, api.Patch, api.Patch) (api.Patch, api.Errno){repair.Merge, repair.Move} {
		for _, l := range [][2]api.Patch{{a.x, a.y}, {a.y, a.x}, {a.x, a.x}, {a.x, {}}, {{}, a.x}} {
			z, e := f(a.p, l[0], l[1])
			tell(z, e)
			spoilEdits(z.Edits)
		}
	}
	runs, e := repair.Runs(a.s)
	tell(runs, e, repair.CheckSuite(a.p, a.s))
	for _, row := range runs {
		spoil(row, -99)
	}
	spoil(runs, nil)
	for _, x := range []api.Patch{a.x, a.y, {}} {
		j, e := repair.Judge(a.p, x, a.s)
		tell(j, e, repair.Accepts(j), repair.Accepts(a.judgement))
		spoilJudgement(j)
		effects, e := repair.Effects(a.p, x, a.s)
		tell(effects, e)
		for _, y := range effects {
			spoil(y.Before.Out, -99)
			spoil(y.After.Out, -99)
		}
		spoil(effects, api.Effect{Run: -99})
		z, e := repair.Minimize(a.p, x, a.s)
		tell(z, e)
		spoilEdits(z.Edits)
	}
	for n := range lang.Count(a.p) {
		for _, f := range []func(api.Program, int) ([]api.Edit, api.Errno){repair.Templates, repair.Donors} {
			l, e := f(a.p, n)
			tell(l, e)
			spoilEdits(l)
		}
		x, found, e := repair.Fit(a.p, n, a.s.Tests, a.s.Domain, 2, a.s.Fuel, 3)
		tell(x, found, e)
		spoilNodes(x.With)
	}
	for _, c := range a.s.Contracts {
		l, e := repair.Guards(a.p, c)
		tell(l, e)
		spoilEdits(l)
	}
	for _, x := range a.claims {
		n, e := repair.Condition(x, a.names)
		tell(n, e)
		spoilNodes([]api.Node{n})
	}
	n, found, e := repair.Solve(a.names, a.rows, a.want, 5)
	tell(n, found, e)
	spoilNodes([]api.Node{n})
	l, e := repair.Repair(a.p, a.s, a.at, 16)
	tell(l, e)
	for _, r := range l {
		spoilEdits(r.Patch.Edits)
		spoilJudgement(r.Judgement)
	}
	spoil(l, api.Repair{})
	return s.String()
}

// some returns arguments for which most functions return something.
func some(t *testing.T) arguments {
	t.Helper()
	a := arguments{
		p: parsed(t, "fun f(a, b) { let c = a * b; if c { print c; } return c; } fun main() { let x = input; let g = fn (y, z) { let w = y; return w + z; }; x = x + f(g.(x, 1), 2); print x; print 0; }"),
		x: patch(t, "0: let c = a + b;", "2: print c + 0;", "9: print x + 0;"), y: patch(t, "0: let c = a + b;", "7: return w; print 5;"),
		s:  api.Suite{Tests: spare(tests("3 > 6 9 0, 1 > 4 5 0"), api.Test{}), Contracts: spare([]api.Contract{on(3, "c a", "c >= 1, c != a"), on(7, "w z", "w >= 1, z in 0 1 2")}, api.Contract{}), Domain: spare(wide("1 3 4 6"), 77), Inputs: 1, Fuel: 99},
		at: spare([]int{8, 0, 9}, 77), claims: []api.Invariant{inv(api.ClOneOf, 0, 0, 0, 0, 1, 2, 3), inv(api.ClLinear, 0, 1, -2, 3), inv(api.ClMod, 1, 0, 1, 3)},
		names: spare(names("x y"), "?"), rows: table("1 2, 3 5, 4 9"), want: spare(wide("1 4 10"), 77), judgement: api.Judgement{Changed: []int{1}},
	}
	a.p.Funcs = spare(a.p.Funcs, api.Func{Name: "?"})
	for i, f := range a.p.Funcs {
		a.p.Funcs[i].Body, a.p.Funcs[i].Params = spared(f.Body), spare(f.Params, "?")
	}
	for _, x := range []*api.Patch{&a.x, &a.y} {
		x.Edits = spare(x.Edits, api.Edit{At: 77})
		for i, y := range x.Edits {
			x.Edits[i].With = spared(y.With)
		}
	}
	for i := range a.s.Tests {
		a.s.Tests[i].Given.Inputs, a.s.Tests[i].Out = spare(a.s.Tests[i].Given.Inputs, 77), spare(a.s.Tests[i].Out, 77)
	}
	for i := range a.s.Contracts {
		a.s.Contracts[i].Names, a.s.Contracts[i].Claims = spare(a.s.Contracts[i].Names, "?"), spare(a.s.Contracts[i].Claims, api.Invariant{})
	}
	return a
}

// R4: no argument is changed, what is returned is new memory, and nothing is kept.
func TestMemory(t *testing.T) {
	a := some(t)
	if m, e := repair.Minimize(a.p, a.x, a.s); e != api.OK || writtenPatch(t, m) != "0: let c = a + b;" {
		t.Fatal(writtenPatch(t, m), e)
	}
	if s := writtenRepairs(t, repaired(t, a.p, a.s, a.at, 16)); s != "0: let c = a + b;" {
		t.Fatal(s)
	}
	if s := fitted(t, a.p, 0, a.s.Tests, a.s.Domain, 2, 99, 3); s != "let c = a + b;" {
		t.Fatal(s)
	}
	before := a.String()
	want := everything(a)
	for range 3 {
		if got := everything(a); got != want {
			t.Fatalf("%s, then %s", want, got)
		}
		if a.String() != before {
			t.Fatalf("an argument changes: %s, then %s", before, a)
		}
	}
}

// lists returns all lists of nodes in some nodes.
func lists(l []api.Node) [][]api.Node {
	out := [][]api.Node{l}
	for _, n := range l {
		for _, part := range [][]api.Node{n.Subs, n.Body, n.Else} {
			if len(part) > 0 {
				out = append(out, lists(part)...)
			}
		}
	}
	return out
}

// apart checks that no list of a result is, or grows into, another one.
func apart[E any](t *testing.T, name string, l [][]E) {
	t.Helper()
	seen := map[*E]bool{}
	count := 0
	for _, s := range l {
		s = s[:cap(s)]
		for i := range s {
			if seen[&s[i]] {
				t.Errorf("%s: two lists share memory: %v", name, l)
				return
			}
			seen[&s[i]] = true
			count++
		}
	}
	if count < 2 {
		t.Errorf("%s: too few lists: %v", name, l)
	}
}

// R4: no two lists of a result share memory.
func TestListsApart(t *testing.T) {
	a := some(t)
	all := func(edits []api.Edit) (l [][]api.Node) {
		for _, x := range edits {
			l = append(l, lists(x.With)...)
		}
		return l
	}
	own := bodies(a.p)
	q, _ := repair.Apply(a.p, a.x)
	apart(t, "Apply", slices.Concat(own, bodies(q)))
	shared := statements(t, "print 1 + 2;")
	twice := api.Patch{Edits: []api.Edit{{At: 2, With: shared}, {At: 8, With: append(slices.Clip(shared), shared...)}}}
	q, _ = repair.Apply(a.p, twice)
	apart(t, "Apply", slices.Concat(own, lists(shared), bodies(q)))
	m, _ := repair.Merge(a.p, twice, twice)
	apart(t, "Merge", append(all(m.Edits), lists(shared)...))
	m, _ = repair.Move(a.p, a.y, twice)
	apart(t, "Move", append(all(m.Edits), lists(shared)...))
	m, _ = repair.Minimize(a.p, a.x, a.s)
	apart(t, "Minimize", append(all(m.Edits), all(a.x.Edits)...))
	runs, _ := repair.Runs(api.Suite{Domain: wide("1 2 3"), Inputs: 3})
	apart(t, "Runs", runs)
	for n := range lang.Count(a.p) {
		if edits := templates(t, a.p, n); len(edits) > 1 {
			apart(t, "Templates", append(all(edits), own...))
		}
		if edits := donors(t, a.p, n); len(edits) > 0 {
			apart(t, "Donors", append(all(edits), own...))
		}
	}
	apart(t, "Guards", append(all(guards(t, a.p, a.s.Contracts[0])), own...))
	for _, x := range a.claims {
		n, _ := repair.Condition(x, a.names)
		apart(t, "Condition", lists([]api.Node{n}))
	}
	n, _, _ := repair.Solve(a.names, table("3 0, 5 0, 7 1"), wide("9 15 21"), 5)
	apart(t, "Solve", lists([]api.Node{n}))
	j := judged(t, a.p, a.x, a.s)
	apart(t, "Judge", [][]int{j.Failed, j.Broken, j.Lost, j.Changed, j.Worse})
	effects, _ := repair.Effects(a.p, a.x, a.s)
	var outs [][]int64
	for _, x := range effects {
		outs = append(outs, x.Before.Out, x.After.Out)
	}
	apart(t, "Effects", outs)
	p := body(t, "let x = input; if x { print x + 1; } print x + 2;")
	var edits []api.Edit
	for _, r := range repaired(t, p, api.Suite{Tests: tests("0 > 1 2"), Domain: wide("0 1"), Fuel: 99}, []int{1, 3}, 16) {
		edits = append(edits, r.Patch.Edits...)
	}
	for _, r := range repaired(t, p, api.Suite{Tests: tests("3 > 5 4 5"), Fuel: 99}, []int{1}, 16) {
		edits = append(edits, r.Patch.Edits...)
	}
	apart(t, "Repair", append(all(edits), bodies(p)...))
}

// bodies returns all lists of nodes in a program.
func bodies(p api.Program) (l [][]api.Node) {
	for _, f := range p.Funcs {
		l = append(l, lists(f.Body)...)
	}
	return l
}

// junkNodes returns nodes with any fields.
func junkNodes(r *rand.Rand, height int) []api.Node {
	var l []api.Node
	for range r.Intn(height) {
		l = append(l, api.Node{
			Kind: api.Kind(r.Intn(30)), Text: []string{"", "f", "x", "+", "main"}[r.Intn(5)], Num: int64(r.Intn(3) - 1),
			Subs: junkNodes(r, height-1), Params: []string{"x", ""}[:r.Intn(3)], Body: junkNodes(r, height-1), Else: junkNodes(r, height-1),
		})
	}
	return l
}

// P0.1, R2: nothing panics, whatever is handed in, and with an error all else is zero.
func TestTotal(t *testing.T) {
	r := rand.New(rand.NewSource(9))
	good := []api.Program{
		body(t, "let x = input; while x { x = x - 1; print x; }"), body(t, "let g = fn (a) { print a; return input; }; let x = g.(1); assert x; g.(2);"),
		parsed(t, "fun f(o) { lock o; o[0] = input; unlock o; } fun main() { let o = new(1); let t = spawn f(o); lock o; print o[0]; unlock o; join t; }"),
	}
	odd := func() int {
		return []int{0, 1, 2, 3, 4, 5, -1, 7, 90, 65536, 65537, least, greatest}[r.Intn(13)]
	}
	anyPatch := func() (x api.Patch) {
		for range r.Intn(4) {
			y := api.Edit{At: r.Intn(6) - r.Intn(9)/8, With: junkNodes(r, 3)}
			if r.Intn(2) == 0 {
				y.With = good[r.Intn(2)].Funcs[0].Body[:r.Intn(2)]
			}
			x.Edits = append(x.Edits, y)
		}
		return x
	}
	accepted := 0
	for i := range 3000 {
		p := api.Program{Funcs: []api.Func{{Name: "main", Body: junkNodes(r, 4)}}}
		if i%4 > 0 {
			p = good[r.Intn(3)]
		}
		s := api.Suite{Fuel: odd(), Inputs: odd(), Domain: make([]int64, r.Intn(7))}
		for k := range s.Domain {
			s.Domain[k] = int64(k - r.Intn(9)/8*odd())
		}
		if r.Intn(3) > 0 {
			s.Fuel = 200
		}
		for range r.Intn(3) {
			s.Tests = append(s.Tests, api.Test{Given: api.Given{Inputs: make([]int64, r.Intn(3)), Clocks: make([]int64, r.Intn(2)), Picks: make([]uint8, r.Intn(3))}, Out: make([]int64, r.Intn(2))})
		}
		for range r.Intn(3) {
			c := api.Contract{At: r.Intn(5), Names: names("x o a t g")[:r.Intn(3)]}
			for range r.Intn(3) {
				c.Claims = append(c.Claims, randomClaim(r, 1+r.Intn(2)))
			}
			s.Contracts = append(s.Contracts, c)
		}
		x, y, n := anyPatch(), anyPatch(), odd()
		for name, c := range map[string]func() (string, api.Errno){
			"Apply":     func() (string, api.Errno) { q, e := repair.Apply(p, x); return fmt.Sprint(q), e },
			"Moved":     func() (string, api.Errno) { l, e := repair.Moved(p, x); return fmt.Sprint(l), e },
			"Merge":     func() (string, api.Errno) { z, e := repair.Merge(p, x, y); return fmt.Sprint(z), e },
			"Move":      func() (string, api.Errno) { z, e := repair.Move(p, x, y); return fmt.Sprint(z), e },
			"Runs":      func() (string, api.Errno) { l, e := repair.Runs(s); return fmt.Sprint(l), e },
			"Judge":     func() (string, api.Errno) { j, e := repair.Judge(p, x, s); return fmt.Sprint(j), e },
			"Effects":   func() (string, api.Errno) { l, e := repair.Effects(p, x, s); return fmt.Sprint(l), e },
			"Minimize":  func() (string, api.Errno) { z, e := repair.Minimize(p, x, s); return fmt.Sprint(z), e },
			"Templates": func() (string, api.Errno) { l, e := repair.Templates(p, n); return fmt.Sprint(l), e },
			"Donors":    func() (string, api.Errno) { l, e := repair.Donors(p, n); return fmt.Sprint(l), e },
			"Guards": func() (string, api.Errno) {
				l, e := repair.Guards(p, append(s.Contracts, api.Contract{At: n})[0])
				return fmt.Sprint(l), e
			},
			"Condition": func() (string, api.Errno) {
				n, e := repair.Condition(randomClaim(r, 3), names("x o a t g a y x let")[:r.Intn(9)])
				return fmt.Sprint(n), e
			},
			"Solve": func() (string, api.Errno) {
				n, found, e := repair.Solve(names("x y z x")[:r.Intn(4)], table("1 2, 3 4, 5")[:r.Intn(4)], wide("1 2 3")[:r.Intn(4)], odd())
				return fmt.Sprint(n, found), e
			},
			"Fit": func() (string, api.Errno) {
				x, found, e := repair.Fit(p, n, s.Tests, s.Domain, min(odd(), 3), s.Fuel, odd())
				return fmt.Sprint(x, found), e
			},
			"Repair": func() (string, api.Errno) {
				l, e := repair.Repair(p, s, []int{n, odd()}[:r.Intn(3)], odd())
				return fmt.Sprint(l), e
			},
		} {
			none := map[string]string{"Apply": "{[]}", "Merge": "{[]}", "Move": "{[]}", "Minimize": "{[]}", "Judge": fmt.Sprint(api.Judgement{}), "Condition": fmt.Sprint(api.Node{}), "Solve": fmt.Sprint(api.Node{}, false), "Fit": fmt.Sprint(api.Edit{}, false)}[name]
			if none == "" {
				none = "[]"
			}
			if text, e := c(); e != api.OK && text != none {
				t.Fatalf("%s of %v: error %d with %s", name, p, e, text)
			} else if e == api.OK {
				accepted++
			}
		}
		if e := repair.CheckPatch(p, x); e == api.OK && lang.Check(p) != api.OK {
			t.Fatal(e)
		}
		if e := repair.CheckSuite(p, s); e == api.OK && lang.Check(p) != api.OK {
			t.Fatal(e)
		}
	}
	if accepted < 3000 {
		t.Error("too few cases:", accepted)
	}
}
