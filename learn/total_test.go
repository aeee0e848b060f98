package learn_test

import (
	"fmt"
	"math/rand"
	"slices"
	"testing"

	"sleuth/api"
	"sleuth/learn"
	"sleuth/record"
)

// The chapter's own examples.
func TestExamples(t *testing.T) {
	m := miner(t, 2, table("1 2, 3 6, 2 4"))
	if l := m.Claims(1); !sameClaims(l, claims("a >= 1, a <= 3, a in 1 2 3, b >= 2, b <= 6, b in 2 4 6, a < b, b == 2 * a + 0")) {
		t.Error(l)
	}
	if s, e := learn.Write(inv(api.ClMod, 0, 0, 1, 4), names("x")); e != api.OK || s != "x % 4 == 1" {
		t.Error(s, e)
	}
	if x, e := learn.Read("y == -2 * x + 7", names("x y")); e != api.OK || !sameClaim(x, inv(api.ClLinear, 0, 1, -2, 7)) {
		t.Error(x, e)
	}
	assert := api.Outcome{End: api.EnAssert, Line: 3}
	if v := learn.Verdict(assert, api.Outcome{End: api.EnDone}, assert); v != api.VeFail {
		t.Error(v)
	}
}

// R3: a nil list and an empty one are the same.
func TestEmptyLists(t *testing.T) {
	x := inv(api.ClLow, 0, 0, 3, 0)
	x.Set = []int64{}
	if e := learn.CheckClaim(x, 1); e != api.OK {
		t.Error(e)
	}
	if row, n, e := learn.First([]api.Invariant{}, [][]int64{{}}); row != -1 || n != -1 || e != api.OK {
		t.Error(row, n, e)
	}
	if _, e := learn.Read("x == 1", []string{}); e != api.ErrArg {
		t.Error(e)
	}
	p := body(t, "let a = 1; print a;")
	if l, rows, e := learn.Samples(p, 1, []api.Given{{Inputs: []int64{}, Clocks: []int64{}, Picks: []uint8{}}}, 99); e != api.OK || !slices.Equal(l, names("a")) || !sameRows(rows, table("1")) {
		t.Error(l, rows, e)
	}
	if e := learn.CheckContract(p, api.Contract{Names: []string{}, Claims: []api.Invariant{}}); e != api.OK {
		t.Error(e)
	}
	if _, broken, _, e := learn.Keeps(p, []api.Contract{}, api.Given{}, 99); broken || e != api.OK {
		t.Error(broken, e)
	}
	a, b := sample(), sample()
	b.Objects[1].Cells, b.Threads[1].Frames, b.Threads[2].Frames[0].Tries = []api.Value{}, []api.Frame{}, []api.Handler{}
	if l, ok := learn.Differences(a, b); !ok || len(l) > 0 || !learn.Shape(a, b) {
		t.Error(l, ok)
	}
	if s, e := learn.Mix(a, b, []api.Place{}); e != api.OK || fmt.Sprint(s) != fmt.Sprint(a) {
		t.Error(s, e)
	}
}

// spare returns a list with memory behind it that nobody may touch.
func spare[T any](l []T, behind T) []T { return append(slices.Clip(l), behind, behind)[:len(l)] }

// spoilState overwrites all memory that a state has.
func spoilState(s api.State) {
	for _, x := range s.Threads {
		for _, f := range x.Frames {
			spoil(f.Regs, num(-99))
			spoil(f.Tries, api.Handler{To: -99})
		}
		spoil(x.Frames, api.Frame{ID: -99})
	}
	for _, o := range s.Objects {
		spoil(o.Cells, num(-99))
	}
	spoil(s.Threads, api.Thread{})
	spoil(s.Objects, api.Object{Chunk: -99})
	spoil(s.Outcome.Out, -99)
}

func spoilClaims(l []api.Invariant) {
	for _, x := range l {
		spoil(x.Set, -99)
	}
	spoil(l, api.Invariant{K: -99})
}

// arguments is what the functions are given to see whether they change it.
type arguments struct {
	names      []string
	claims     []api.Invariant
	rows       [][]int64
	p          api.Program
	given      []api.Given
	contracts  []api.Contract
	a, b       api.State
	at         []api.Place
	pass, fail api.Log
}

// String tells also what stands behind the lists.
func (x arguments) String() string {
	var l []any
	for _, row := range x.rows[:cap(x.rows)] {
		l = append(l, row[:cap(row)])
	}
	for _, c := range x.claims[:cap(x.claims)] {
		l = append(l, c.Set[:cap(c.Set)])
	}
	for _, g := range x.given[:cap(x.given)] {
		l = append(l, g.Inputs[:cap(g.Inputs)])
	}
	for _, c := range x.contracts[:cap(x.contracts)] {
		l = append(l, c.Names[:cap(c.Names)], c.Claims[:cap(c.Claims)])
	}
	for _, s := range []api.State{x.a, x.b} {
		l = append(l, s.Threads[:cap(s.Threads)], s.Objects[:cap(s.Objects)], s.Outcome.Out[:cap(s.Outcome.Out)])
		for _, y := range s.Threads {
			for _, f := range y.Frames {
				l = append(l, f.Regs[:cap(f.Regs)], f.Tries[:cap(f.Tries)])
			}
		}
	}
	return fmt.Sprint(l, x.names[:cap(x.names)], x.claims, x.p, x.given, x.contracts, x.at[:cap(x.at)], x.a, x.b, x.pass, x.fail)
}

// everything returns what all functions return for some arguments, as a text, and spoils it then.
func everything(x arguments) string {
	var texts []string
	tell := func(l ...any) { texts = append(texts, fmt.Sprint(l...)) }
	for _, c := range x.claims {
		ok, e := learn.Holds(c, x.rows[0])
		s, f := learn.Write(c, x.names)
		again, g := learn.Read(s, x.names)
		tell(learn.CheckClaim(c, 2), ok, e, s, f, again, g)
		spoil(again.Set, -99)
	}
	m, _ := learn.New(2)
	o, _ := learn.New(2)
	for _, row := range x.rows {
		tell(m.Add(row), o.Add(row), m.Merge(o))
	}
	for _, c := range []*learn.Miner{m, m.Copy(), o} {
		l := c.Claims(1)
		tell(c.Rows(), l)
		spoilClaims(l)
	}
	row, n, e := learn.First(x.claims, x.rows)
	watched, f := learn.Watched(x.p, 3)
	tell(row, n, e, watched, f)
	spoil(watched, "?")
	l, rows, e := learn.Samples(x.p, 3, x.given, 99)
	tell(l, rows, e)
	spoil(l, "?")
	for _, row := range rows {
		spoil(row, -99)
	}
	spoil(rows, nil)
	c, e := learn.Learn(x.p, 3, x.given, 99, 1)
	tell(c, e, learn.CheckContract(x.p, x.contracts[0]))
	spoil(c.Names, "?")
	spoilClaims(c.Claims)
	for _, g := range x.given {
		b, broken, y, e := learn.Keeps(x.p, x.contracts, g, 99)
		v, f := learn.Oracle(x.p, x.contracts, g, 99)
		tell(b, broken, y, e, v, f)
		spoil(y.Out, -99)
	}
	places, ok := learn.Differences(x.a, x.b)
	tell(places, ok, learn.Shape(x.a, x.b))
	spoil(places, api.Place{})
	s, e := learn.Mix(x.a, x.b, x.at)
	tell(s, e)
	spoilState(s)
	for n := range 12 {
		base, places, found, e := learn.Isolate(x.p, x.pass, x.fail, n, 99)
		tell(base, places, found, e)
		spoil(base, api.Place{A: -99})
		spoil(places, api.Place{A: -99})
	}
	causes, e := learn.Transitions(x.p, x.pass, x.fail, 1, 99)
	tell(causes, e)
	for _, c := range causes {
		spoil(c.Places, api.Place{A: -99})
	}
	spoil(causes, api.Cause{State: -99})
	return fmt.Sprint(texts)
}

// R4: no argument is changed, what is returned is new memory, and nothing is kept.
func TestMemory(t *testing.T) {
	x := arguments{
		names: spare(names("x y"), "?"), claims: spare(claims("a in 1 2 3, a < b, b == 2 * a + 0, b in 2 6"), api.Invariant{}), rows: spare(table("1 2, 2 4, 3 6, 3 5"), []int64{77}),
		p:     body(t, "let a = input; let b = input; let c = new(2); print a; c[0] = b; assert c[0] < 9; print b;"),
		given: spare([]api.Given{given(1, 2), given(3, 4)}, api.Given{}), contracts: spare([]api.Contract{on(3, "a b", "a < b, a in 1 3"), on(6, "b", "a == 2")}, api.Contract{}),
		a: sample(), b: sample(), at: spare([]api.Place{reg(3, 1), cellOf(0, 1)}, api.Place{}),
	}
	x.pass, x.fail = recorded(t, x.p, given(1, 2), 99), recorded(t, x.p, given(3, 12), 99)
	x.b.Threads[0].Frames[1].Regs[1], x.b.Objects[0].Cells[1] = num(4), num(4)
	for i := range x.claims {
		x.claims[i].Set = spare(x.claims[i].Set, 77)
	}
	for i := range x.given {
		x.given[i].Inputs = spare(x.given[i].Inputs, 77)
		x.contracts[i].Names, x.contracts[i].Claims = spare(x.contracts[i].Names, "?"), spare(x.contracts[i].Claims, api.Invariant{})
	}
	for i := range x.rows {
		x.rows[i] = spare(x.rows[i], 77)
	}
	before := x.String()
	want := everything(x)
	for range 3 {
		if got := everything(x); got != want {
			t.Fatalf("%s, then %s", want, got)
		}
		if x.String() != before {
			t.Fatalf("an argument changes: %s, then %s", before, x)
		}
	}
}

// apart checks that no list of a result grows into another one.
func apart[E any](t *testing.T, name string, l [][]E, with E) {
	t.Helper()
	if len(l) < 2 {
		t.Errorf("%s: too few lists: %v", name, l)
	}
	want := fmt.Sprint(l)
	for _, s := range l {
		_ = append(s, with, with, with)
		spoil(s[len(s):], with)
	}
	if fmt.Sprint(l) != want {
		t.Errorf("%s: %s becomes %v", name, want, l)
	}
}

// R4: no two lists of a result share memory.
func TestListsApart(t *testing.T) {
	var sets [][]int64
	for _, x := range miner(t, 3, table("1 2 3, 2 4 5")).Claims(1) {
		sets = append(sets, x.Set)
	}
	apart(t, "Claims", sets, -9)
	p := body(t, "let a = input; let b = new(1); let c = a + 1; print c; print a; assert a < 3;")
	_, rows := samples(t, p, 3, 99, given(1), given(2), given(3))
	apart(t, "Samples", rows, -9)
	_, rows = samples(t, body(t, "let a = input; let b = 1; print a;"), 2, 99, given(1), given(2))
	apart(t, "Samples", rows, -9)
	pass, fail := recorded(t, p, given(1), 99), recorded(t, p, given(2), 99)
	causes, e := learn.Transitions(p, pass, fail, 1, 99)
	var places [][]api.Place
	for _, c := range causes {
		places = append(places, c.Places)
	}
	if e != api.OK {
		t.Error(e)
	}
	apart(t, "Transitions", places, api.Place{A: -9})
	base, found, _ := isolated(t, p, pass, fail, 9, 99)
	apart(t, "Isolate", [][]api.Place{base, found}, api.Place{A: -9})
	a, b := sample(), sample()
	b.Objects[0].Cells[0] = num(9)
	s, _ := learn.Mix(a, b, []api.Place{cellOf(0, 0)})
	apart(t, "Mix", [][]api.Value{s.Threads[0].Frames[0].Regs, s.Threads[0].Frames[1].Regs, s.Threads[2].Frames[0].Regs, s.Objects[0].Cells, s.Objects[1].Cells, s.Objects[2].Cells}, num(-9))
	apart(t, "Mix", [][]api.Frame{s.Threads[0].Frames, s.Threads[1].Frames, s.Threads[2].Frames}, api.Frame{ID: -9})
}

// junkNodes returns nodes with any fields.
func junkNodes(r *rand.Rand, height int) []api.Node {
	var l []api.Node
	for range r.Intn(height) {
		l = append(l, api.Node{
			Kind: api.Kind(r.Intn(30)), Text: []string{"", "f", "x", "+", "main"}[r.Intn(5)], Num: int64(r.Intn(3) - 1),
			Subs: junkNodes(r, height-1), Params: []string{"x", ""}[:r.Intn(3)], Body: junkNodes(r, height-1), Else: junkNodes(r, height-1),
		})
	}
	return l
}

// P0.1, R2: nothing panics, whatever is handed in, and with an error all else is zero.
func TestTotal(t *testing.T) {
	r := rand.New(rand.NewSource(9))
	good := []api.Program{
		body(t, "let x = input; while x { x = x - 1; print x; }"), body(t, "let g = fn (a) { print a; return input; }; let x = g.(1); assert x; g.(2);"),
		parsed(t, "fun f(o) { lock o; o[0] = input; unlock o; } fun main() { let o = new(1); let t = spawn f(o); lock o; print o[0]; unlock o; join t; }"),
	}
	odd := func() int {
		return []int{0, 1, 2, 3, 4, 5, -1, 7, 90, 65536, 65537, -1 << 63, 1<<63 - 1}[r.Intn(13)]
	}
	small := func() int { return r.Intn(5) }
	anyNames := func() []string { return names("x o g a t y x let")[:r.Intn(9)] }
	for i := range 4000 {
		p := api.Program{Funcs: []api.Func{{Name: "main", Body: junkNodes(r, 4)}}}
		if i%4 > 0 {
			p = good[r.Intn(3)]
		}
		var l []api.Given
		for range r.Intn(3) {
			l = append(l, api.Given{Inputs: make([]int64, r.Intn(3)), Clocks: make([]int64, r.Intn(2)), Picks: make([]uint8, r.Intn(3))})
		}
		var contracts []api.Contract
		for range r.Intn(3) {
			c := api.Contract{At: small(), Names: names("x o a t g")[:r.Intn(5)]}
			for range r.Intn(3) {
				c.Claims = append(c.Claims, randomClaim(r, 1+r.Intn(2)))
			}
			contracts = append(contracts, c)
		}
		fuel, n := odd(), small()
		if r.Intn(3) > 0 {
			fuel = 300
		}
		g := append(l, api.Given{})[0]
		pass, _, _ := record.Record(p, g, 99)
		fail, _, _ := record.Record(p, given(2, 3, 1, 0), 99)
		if r.Intn(6) == 0 {
			pass.Steps, fail.Sum = odd(), uint64(odd())
		}
		for name, c := range map[string]func() (string, api.Errno){
			"Watched": func() (string, api.Errno) { l, e := learn.Watched(p, n); return fmt.Sprint(l), e },
			"Samples": func() (string, api.Errno) {
				names, rows, e := learn.Samples(p, n, l, fuel)
				return fmt.Sprint(names, rows), e
			},
			"Learn": func() (string, api.Errno) {
				c, e := learn.Learn(p, n, l, fuel, odd())
				if c.At == 0 {
					c.At = len(c.Names) + len(c.Claims)
				}
				return fmt.Sprint(c.At*min(1, int(e)), c.Names, c.Claims), e
			},
			"Keeps": func() (string, api.Errno) {
				b, broken, x, e := learn.Keeps(p, contracts, g, fuel)
				return fmt.Sprint(b, broken, x), e
			},
			"Oracle": func() (string, api.Errno) {
				v, e := learn.Oracle(p, contracts, g, fuel)
				return fmt.Sprint(v), e
			},
			"Isolate": func() (string, api.Errno) {
				base, places, found, e := learn.Isolate(p, pass, fail, odd(), fuel)
				return fmt.Sprint(base, places, found), e
			},
			"Transitions": func() (string, api.Errno) {
				l, e := learn.Transitions(p, pass, fail, 1+r.Intn(30)-r.Intn(9)/8*40, fuel)
				return fmt.Sprint(l), e
			},
			"Write": func() (string, api.Errno) { return learn.Write(randomClaim(r, 3), anyNames()) },
			"Read": func() (string, api.Errno) {
				x, e := learn.Read([]string{"x == 1", "", "y in", "x % x", "o == 2 * x + 1"}[small()], anyNames())
				return fmt.Sprint(x), e
			},
		} {
			none := map[string]string{"Watched": "[]", "Samples": "[] []", "Learn": "0 [] []", "Keeps": fmt.Sprint(api.Breach{}, false, api.Outcome{}), "Oracle": "0", "Isolate": "[] [] false", "Transitions": "[]", "Write": "", "Read": fmt.Sprint(api.Invariant{})}[name]
			if s, e := c(); e != api.OK && s != none {
				t.Fatalf("%s of %v: error %d with %s", name, p, e, s)
			}
		}
		if e := learn.CheckContract(p, api.Contract{At: odd(), Names: anyNames(), Claims: []api.Invariant{randomClaim(r, 2)}}); e < 0 {
			t.Fatal(e)
		}
	}
}
