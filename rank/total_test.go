package rank_test

import (
	"fmt"
	"math/rand"
	"slices"
	"testing"

	"sleuth/api"
	"sleuth/rank"
)

// The chapter's own examples.
func TestExamples(t *testing.T) {
	if x, e := rank.Fraction(6, -4); e != api.OK || x != ratio(-3, 2) {
		t.Error(x, e)
	}
	if x, e := rank.Score(api.FoOchiai, api.Tally{FailHit: 2, PassHit: 1, PassMiss: 3}); e != api.OK || x != ratio(2, 3) {
		t.Error(x, e)
	}
	l, e := rank.Rank(spectrum(2, "f 0 1, p 1"), api.FoJaccard)
	if e != api.OK || !slices.Equal(l, []api.Standing{place(0, 1, 1, 1, 1), place(1, 1, 2, 2, 2)}) {
		t.Error(l, e)
	}
	if l, e := rank.Hit(sets("1 2,2 3"), 2); e != api.OK || !sameLists(l, sets("2,1 3")) {
		t.Error(l, e)
	}
	if l, e := rank.Hit(nil, 0); e != api.OK || len(l) != 1 || len(l[0]) != 0 {
		t.Error(l, e)
	}
	w, ok, e := rank.Explain(body(t, "let x = input; print x + 2;"), []int{1}, tests("3 > 6"), []int64{5, 6}, 1, 99)
	if e != api.OK || !ok || !sameLists(w, [][]int64{{6}}) {
		t.Error(w, ok, e)
	}
}

// R3: a nil list and an empty one are the same.
func TestEmptyLists(t *testing.T) {
	none := []int{}
	s := api.Spectrum{Parts: 2, Rows: []api.Row{{Hits: none, Fail: true}, {Hits: nil}}}
	if l, e := rank.Conflicts(s); e != api.OK || !sameLists(l, [][]int{nil}) {
		t.Error(l, e)
	}
	if j, e := rank.Join(s, api.Spectrum{Parts: 1, Rows: []api.Row{{Fail: true}, {Hits: none}}}); e != api.OK || !sameSpectrum(j, spectrum(3, "f, p")) {
		t.Error(j, e)
	}
	if l, e := rank.Alike(api.Spectrum{Parts: 2, Rows: []api.Row{}}); e != api.OK || !sameLists(l, sets("0 1")) {
		t.Error(l, e)
	}
	if l, e := rank.Smallest([][]int{none, nil, {1}}); e != api.OK || !sameLists(l, [][]int{nil}) {
		t.Error(l, e)
	}
	if l, e := rank.Hit([][]int{}, 2); e != api.OK || !sameLists(l, [][]int{nil}) {
		t.Error(l, e)
	}
	if l, e := rank.Hit([][]int{none}, 2); e != api.OK || len(l) > 0 {
		t.Error(l, e)
	}
	if n, e := rank.Blame(spectrum(1, "p 0"), [][]int{none}); e != api.OK || !slices.Equal(n, []int{0}) {
		t.Error(n, e)
	}
	p := body(t, "")
	x := api.Test{Given: api.Given{Inputs: []int64{}, Clocks: []int64{}, Picks: []uint8{}}, Out: []int64{}}
	if ok, e := rank.Meets(p, x, 9); e != api.OK || !ok {
		t.Error(ok, e)
	}
	if w, ok, e := rank.Explain(p, none, []api.Test{x, {}}, []int64{1}, 0, 9); e != api.OK || !ok || !sameLists(w, [][]int64{nil, nil}) {
		t.Error(w, ok, e)
	}
	if l, e := rank.Diagnose(p, []api.Test{}, []int64{1}, 0, 9, 0); e != api.OK || !sameLists(l, [][]int{nil}) {
		t.Error(l, e)
	}
}

// spare returns a list with memory behind it that nobody may touch.
func spare[T any](l []T, behind T) []T { return append(slices.Clip(l), behind, behind)[:len(l)] }

// spoil overwrites all memory that a list has.
func spoil[T any](l []T, with T) {
	for i := range l[:cap(l)] {
		l[:cap(l)][i] = with
	}
}

// spoilNodes overwrites all memory that nodes have.
func spoilNodes(l []api.Node) {
	for _, n := range l {
		spoilNodes(n.Subs)
		spoilNodes(n.Body)
		spoilNodes(n.Else)
		spoil(n.Params, "?")
	}
	spoil(l, api.Node{Text: "?"})
}

// arguments is what the functions are given to see whether they change it.
type arguments struct {
	s, other api.Spectrum
	sets     [][]int
	owner    []int
	faulty   []int
	p        api.Program
	at       []int
	tests    []api.Test
	domain   []int64
}

// String tells also what stands behind the lists.
func (a arguments) String() string {
	var l []any
	for _, s := range []api.Spectrum{a.s, a.other} {
		l = append(l, s.Rows[:cap(s.Rows)])
		for _, row := range s.Rows {
			l = append(l, row.Hits[:cap(row.Hits)])
		}
	}
	for _, s := range a.sets[:cap(a.sets)] {
		l = append(l, s[:cap(s)])
	}
	for _, x := range a.tests[:cap(a.tests)] {
		l = append(l, x.Given.Inputs[:cap(x.Given.Inputs)], x.Out[:cap(x.Out)])
	}
	return fmt.Sprint(l, a.owner[:cap(a.owner)], a.faulty[:cap(a.faulty)], a.p, a.at[:cap(a.at)], a.domain[:cap(a.domain)])
}

// everything returns what all functions return for some arguments, as a text, and spoils it then.
func everything(a arguments) string {
	var texts []string
	list := func(l []int, e api.Errno) {
		texts = append(texts, fmt.Sprint(l, e))
		spoil(l, -9)
	}
	lists := func(l [][]int, e api.Errno) {
		texts = append(texts, fmt.Sprint(l, e))
		for _, s := range l {
			spoil(s, -9)
		}
		spoil(l, nil)
	}
	spectra := func(s api.Spectrum, e api.Errno) {
		texts = append(texts, fmt.Sprint(s, e))
		for _, row := range s.Rows {
			spoil(row.Hits, -9)
		}
		spoil(s.Rows, api.Row{})
	}
	tallies, e := rank.Tallies(a.s)
	texts = append(texts, fmt.Sprint(tallies, e))
	spoil(tallies, api.Tally{})
	for _, f := range formulas() {
		standings, e := rank.Rank(a.s, f)
		best, worst, mean, g := rank.Effort(a.s, f, a.faulty)
		texts = append(texts, fmt.Sprint(standings, e, best, worst, mean, g))
		spoil(standings, api.Standing{})
	}
	lists(rank.Alike(a.s))
	spectra(rank.Lift(a.s, a.owner, 9))
	spectra(rank.Join(a.s, a.other))
	lists(rank.Smallest(a.sets))
	lists(rank.Hit(a.sets, 3))
	lists(rank.Conflicts(a.s))
	lists(rank.Suspects(a.s, 2))
	list(rank.Blame(a.s, a.sets))
	ok, e := rank.Meets(a.p, a.tests[0], 99)
	texts = append(texts, fmt.Sprint(ok, e))
	for b := range api.BaBranch + 1 {
		spectra(rank.Cover(a.p, a.tests, b, 99))
	}
	list(rank.Openable(a.p))
	q, e := rank.Open(a.p, a.at)
	texts = append(texts, fmt.Sprint(q, e))
	for _, f := range q.Funcs {
		spoil(f.Params, "?")
		spoilNodes(f.Body)
	}
	w, ok, e := rank.Explain(a.p, a.at, a.tests, a.domain, 3, 99)
	texts = append(texts, fmt.Sprint(w, ok, e))
	for _, l := range w {
		spoil(l, -9)
	}
	lists(rank.Diagnose(a.p, a.tests, a.domain, 2, 99, 2))
	return fmt.Sprint(texts)
}

// R4: no argument is changed, what is returned is new memory, and nothing is kept.
func TestMemory(t *testing.T) {
	a := arguments{
		s: spectrum(4, "f 0 1 2, p 1, f 0 2 3"), other: spectrum(2, "f 0, p 1, f"),
		sets: spare(sets("1 2,0 2 3,1 2,3"), []int{77}), owner: spare(numbers("1 0 2 1"), 77), faulty: spare(numbers("1 3"), 77),
		p: parsed(t, "fun f(a, b) { return a + b; } fun main() { let x = input; let g = fn (y) { return y; }; if x < 3 { x = x + 1; } else { x = f(x, g.(0)); } print x; }"),
		// 0 return; 1 let, 2 let, 3 return, 4 if, 5 set, 6 set, 7 print
		at: spare(numbers("4 7"), 77), tests: spare(tests("1 > 2, 5 > 6"), api.Test{}), domain: spare(wide("0 1 2 6"), 77),
	}
	for i := range a.s.Rows {
		a.s.Rows[i].Hits = spare(a.s.Rows[i].Hits, 77)
		a.tests[i%2].Out = spare(a.tests[i%2].Out, 77)
		a.tests[i%2].Given.Inputs = spare(a.tests[i%2].Given.Inputs, 77)
	}
	before := a.String()
	want := everything(a)
	for range 3 {
		if got := everything(a); got != want {
			t.Fatalf("%s, then %s", want, got)
		}
		if a.String() != before {
			t.Fatalf("an argument changes: %s, then %s", before, a)
		}
	}
}

// apart checks that no list of a result grows into another one.
func apart[E any](t *testing.T, name string, l [][]E, with E) {
	t.Helper()
	if len(l) < 2 {
		t.Errorf("%s: too few lists: %v", name, l)
	}
	want := fmt.Sprint(l)
	for _, s := range l {
		_ = append(s, with, with, with)
		spoil(s[len(s):], with)
	}
	if fmt.Sprint(l) != want {
		t.Errorf("%s: %s becomes %v", name, want, l)
	}
}

// R4: no two lists of a result share memory.
func TestListsApart(t *testing.T) {
	s := spectrum(6, "f 0 1 2, p 1 4, f 2 3 4, f 5")
	rows := func(s api.Spectrum, _ api.Errno) [][]int {
		var l [][]int
		for _, row := range s.Rows {
			l = append(l, row.Hits)
		}
		return l
	}
	lists := func(l [][]int, _ api.Errno) [][]int { return l }
	apart(t, "Alike", lists(rank.Alike(s)), -9)
	apart(t, "Lift", rows(rank.Lift(s, until(6), 6)), -9)
	apart(t, "Join", rows(rank.Join(s, s)), -9)
	apart(t, "Smallest", lists(rank.Smallest(sets("3 4,1 2,0 5 6,1 2"))), -9)
	apart(t, "Hit", lists(rank.Hit(sets("1 2,3 4,5 6"), 3)), -9)
	apart(t, "Conflicts", lists(rank.Conflicts(s)), -9)
	apart(t, "Suspects", lists(rank.Suspects(s, 3)), -9)
	p := body(t, "let a = 1; let b = 2; print a; print b;")
	apart(t, "Cover", rows(rank.Cover(p, tests("> 1 2, > 1"), api.BaStatement, 99)), -9)
	apart(t, "Diagnose", lists(rank.Diagnose(p, tests("> 5 6"), []int64{5, 6}, 2, 99, 2)), -9)
	w, _ := explained(t, p, []int{2, 3}, tests("> 5 6, > 5 6, > 6 6"), []int64{5, 6}, 2, 99)
	apart(t, "Explain", w, -9)
}

// P0.1, R2: nothing panics, whatever is handed in, and with an error all else is zero.
func TestTotal(t *testing.T) {
	r := rand.New(rand.NewSource(16))
	odd := func() int {
		return []int{0, 1, 2, 3, 5, 9, -1, 64, 65, 255, 256, 257, 1 << 31, -1 << 63, 1<<63 - 1}[r.Intn(15)]
	}
	few := func() []int { return []int{odd(), odd(), odd()}[:r.Intn(4)] }
	many := func() [][]int {
		var l [][]int
		for range r.Intn(5) {
			l = append(l, few())
		}
		return l
	}
	junk := func() api.Spectrum {
		s := api.Spectrum{Parts: odd()}
		for _, hits := range many() {
			s.Rows = append(s.Rows, api.Row{Hits: hits, Fail: r.Intn(2) == 0})
		}
		return s
	}
	for range 20000 {
		s, f := junk(), api.Formula(r.Intn(18))
		for _, c := range []func() (int, api.Errno){
			func() (int, api.Errno) {
				x, e := rank.Fraction(int64(odd()), int64(odd()))
				return int(x.Num | x.Den), e
			},
			func() (int, api.Errno) { l, e := rank.Tallies(s); return len(l), e },
			func() (int, api.Errno) {
				x, e := rank.Score(f, api.Tally{FailHit: odd(), PassHit: odd(), FailMiss: odd(), PassMiss: odd()})
				return int(x.Num | x.Den), e
			},
			func() (int, api.Errno) { l, e := rank.Rank(s, f); return len(l), e },
			func() (int, api.Errno) { a, b, m, e := rank.Effort(s, f, few()); return a | b | int(m.Num|m.Den), e },
			func() (int, api.Errno) { l, e := rank.Alike(s); return len(l), e },
			func() (int, api.Errno) { x, e := rank.Lift(s, few(), odd()); return x.Parts | len(x.Rows), e },
			func() (int, api.Errno) { x, e := rank.Join(s, junk()); return x.Parts | len(x.Rows), e },
			func() (int, api.Errno) { return 0, rank.CheckSets(many()) },
			func() (int, api.Errno) { l, e := rank.Smallest(many()); return len(l), e },
			func() (int, api.Errno) { l, e := rank.Hit(many(), odd()); return len(l), e },
			func() (int, api.Errno) { l, e := rank.Conflicts(s); return len(l), e },
			func() (int, api.Errno) { l, e := rank.Suspects(s, odd()); return len(l), e },
			func() (int, api.Errno) { l, e := rank.Blame(s, many()); return len(l), e },
		} {
			if n, e := c(); e != api.OK && n != 0 {
				t.Fatalf("%v: error %d with a result", s, e)
			}
		}
		rank.Compare(ratio(int64(odd()), int64(odd())), ratio(int64(odd()), int64(odd())))
	}
}

// junkNodes returns nodes with any fields.
func junkNodes(r *rand.Rand, height int) []api.Node {
	var l []api.Node
	for range r.Intn(height) {
		l = append(l, api.Node{
			Kind: api.Kind(r.Intn(30)), Text: []string{"", "f", "x", "+", "main"}[r.Intn(5)], Num: int64(r.Intn(3) - 1),
			Subs: junkNodes(r, height-1), Params: []string{"x", ""}[:r.Intn(3)], Body: junkNodes(r, height-1), Else: junkNodes(r, height-1),
		})
	}
	return l
}

// P0.1, R2: nothing panics either, whatever program and tests are handed in.
func TestTotalPrograms(t *testing.T) {
	r := rand.New(rand.NewSource(17))
	good := []api.Program{body(t, "let x = input; while x { x = x - 1; print x; }"), body(t, "print clock;"), body(t, "let g = fn (a) { print a; g.(a); }; g.(1);")}
	odd := func() int { return []int{0, 1, 2, 3, 5, -1, 6, 7, 90, 65537, -1 << 63, 1<<63 - 1}[r.Intn(12)] }
	for i := range 6000 {
		p := api.Program{Funcs: []api.Func{{Name: "main", Body: junkNodes(r, 4)}}}
		if i%2 == 0 {
			p = good[r.Intn(len(good))]
		}
		var l []api.Test
		for range r.Intn(3) {
			l = append(l, api.Test{Given: api.Given{Inputs: make([]int64, r.Intn(3)), Clocks: make([]int64, r.Intn(2)), Picks: make([]uint8, r.Intn(3))}, Out: make([]int64, r.Intn(3))})
		}
		at := []int{odd(), odd()}[:r.Intn(3)]
		domain := []int64{int64(odd()), int64(odd())}[:r.Intn(3)]
		fuel, choices, size := odd(), odd(), odd()
		for _, c := range []func() (int, api.Errno){
			func() (int, api.Errno) {
				x, e := rank.Cover(p, l, api.Base(r.Intn(5)), fuel)
				return x.Parts | len(x.Rows), e
			},
			func() (int, api.Errno) { l, e := rank.Openable(p); return len(l), e },
			func() (int, api.Errno) { q, e := rank.Open(p, at); return len(q.Funcs), e },
			func() (int, api.Errno) {
				w, ok, e := rank.Explain(p, at, l, domain, choices, fuel)
				if ok {
					return len(w) + 1, e
				}
				return len(w), e
			},
			func() (int, api.Errno) { l, e := rank.Diagnose(p, l, domain, choices, fuel, size); return len(l), e },
		} {
			if n, e := c(); e != api.OK && n != 0 {
				t.Fatalf("%v: error %d with a result", p, e)
			}
		}
		if ok, e := rank.Meets(p, api.Test{}, fuel); e != api.OK && ok {
			t.Fatalf("%v: error %d, and met", p, e)
		}
	}
}
