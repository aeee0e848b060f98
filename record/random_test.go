package record_test

import (
	"math/rand"
	"slices"
	"testing"

	"sleuth/api"
	"sleuth/machine"
	"sleuth/record"
)

// P3.12: what the functions say of one another, for logs of all makers.
func TestConsequences(t *testing.T) {
	runs(t, 40, func(r *rand.Rand, p api.Program, g api.Given, h history) {
		recorded, _ := recorded(t, p, g, h.end())
		directed, _ := followed(t, p, g, turns("0*7 1*3 2*5 0*2 1*9 0*4"), r.Intn(150))
		prefix, e := record.Prefix(p, recorded, r.Intn(recorded.Steps+1))
		if e != api.OK {
			t.Fatalf("Prefix: error %d", e)
		}
		for i, l := range []api.Log{recorded, directed, prefix} {
			if e := record.Check(p, l); e != api.OK {
				t.Errorf("log %d: Check: error %d", i, e)
			}
			own := api.Given{Inputs: l.Inputs, Clocks: l.Clocks}
			if again, o := followed(t, p, own, l.Picks, l.Steps); !sameLog(again, l) || o.Steps != l.Steps {
				t.Errorf("log %d: Follow of its picks: %+v, not %+v", i, again, l)
			}
			again, e := record.Given(p, l)
			if e != api.OK {
				t.Fatalf("log %d: Given: error %d", i, e)
			}
			if l2, _, e := record.Record(p, again, l.Steps); e != api.OK || !sameLog(l2, l) {
				t.Errorf("log %d: Record of what Given returns: error %d, %+v, not %+v", i, e, l2, l)
			}
			if back, e := record.Decode(encoded(t, l)); e != api.OK || !sameLog(back, l) {
				t.Errorf("log %d: Decode: error %d, %+v, not %+v", i, e, back, l)
			}
			if x := opened(t, p, l, 10); x.Goto(l.Steps) != api.OK || machine.Sum(x.State()) != l.Sum {
				t.Errorf("log %d: the last state is another one", i)
			}
		}
	})
}

// mixed returns a run that reads inputs and clock values, and whose threads take turns, with lists that have room behind their ends.
func mixed() (text string, g api.Given, picks []api.Pick) {
	room := func(l ...int64) []int64 { return append(l, 77, 78)[:len(l)] }
	g = api.Given{Inputs: room(1, 2, 3, 4, 5, 6), Clocks: room(10, 20, 30, 40, 50, 60), Picks: append(make([]uint8, 40), 9)[:40]}
	for i := range g.Picks {
		g.Picks[i] = uint8(i / 3)
	}
	picks = append(turns("0*9 1*5 2*3 1*9 0*7 2*20"), api.Pick{Thread: 7, Count: 7})
	return texts()[4], g, picks[:len(picks)-1]
}

// cloneGiven returns a copy of what is given, with what lies behind the ends of its lists.
func cloneGiven(g api.Given) api.Given {
	return api.Given{Inputs: slices.Clone(g.Inputs[:cap(g.Inputs)]), Clocks: slices.Clone(g.Clocks[:cap(g.Clocks)]), Picks: slices.Clone(g.Picks[:cap(g.Picks)])}
}

func sameGiven(a, b api.Given) bool {
	return slices.Equal(a.Inputs, b.Inputs) && slices.Equal(a.Clocks, b.Clocks) && slices.Equal(a.Picks, b.Picks)
}

// R4: Record and Follow change nothing that they are given, keep none of it, and return new memory.
func TestRecordApart(t *testing.T) {
	text, g, picks := mixed()
	p := parsed(t, text)
	before, named := cloneGiven(g), order(picks[:cap(picks)])
	makers := map[string]func() (api.Log, api.Outcome, api.Errno){
		"Record": func() (api.Log, api.Outcome, api.Errno) { return record.Record(p, g, 60) },
		"Follow": func() (api.Log, api.Outcome, api.Errno) { return record.Follow(p, g, picks, 60) },
	}
	for name, run := range makers {
		l, o, e := run()
		want, wantOut := cloneLog(l), slices.Clone(o.Out)
		other, otherOut, _ := run()
		if e != api.OK || len(l.Inputs) == 0 || len(l.Clocks) == 0 || len(l.Picks) < 3 || len(o.Out) == 0 {
			t.Fatalf("%s: error %d, %+v, %+v", name, e, l, o)
		}
		spoilLog(l)
		spoilNumbers(o.Out)
		if !sameLog(other, want) || !slices.Equal(otherOut.Out, wantOut) {
			t.Errorf("%s: two results share memory", name)
		}
		if !sameGiven(cloneGiven(g), before) || order(picks[:cap(picks)]) != named {
			t.Errorf("%s: what is given changes: %+v", name, g)
		}
		if again, out, _ := run(); !sameLog(again, want) || !slices.Equal(out.Out, wantOut) {
			t.Errorf("%s: later it returns another log", name)
		}
	}
}

// R4: what is made of a log shares no memory with it, or with what is made of it again, and does not change it.
func TestLogApart(t *testing.T) {
	text, g, picks := mixed()
	p := parsed(t, text)
	l, _ := followed(t, p, g, picks, 60)
	h := replayed(t, p, l)
	before := cloneLog(l)
	for range 2 {
		given, e := record.Given(p, l)
		if e != api.OK || len(given.Picks) != l.Steps {
			t.Fatalf("Given: error %d, %+v", e, given)
		}
		spoilNumbers(given.Inputs)
		spoilNumbers(given.Clocks)
		clear(given.Picks[:cap(given.Picks)])
		k, e := record.Prefix(p, l, l.Steps)
		if e != api.OK || !sameLog(k, l) {
			t.Fatalf("Prefix: error %d, %+v", e, k)
		}
		spoilLog(k)
		list, e := record.Preemptions(p, l)
		if e != api.OK || len(list) == 0 {
			t.Fatalf("Preemptions: error %d, %v", e, list)
		}
		clear(list[:cap(list)])
		if !sameLog(l, before) {
			t.Fatalf("the log changes: %+v", l)
		}
	}
	stands(t, opened(t, p, l, 3), h, 0)
	if e := record.Check(p, l); e != api.OK {
		t.Errorf("Check: error %d", e)
	}
}

// junkLog returns a log with any fields, many of them near the limits.
func junkLog(r *rand.Rand) api.Log {
	odd := func() int {
		return []int{0, 1, 2, 3, 7, 8, -1, api.MaxSteps, api.MaxSteps + 1, 1 << 62, -1 << 63, 1<<63 - 1}[r.Intn(12)]
	}
	l := api.Log{Steps: odd(), Sum: r.Uint64()}
	for range r.Intn(4) {
		l.Picks = append(l.Picks, api.Pick{Thread: odd(), Count: odd()})
	}
	for range r.Intn(3) {
		l.Inputs, l.Clocks = append(l.Inputs, int64(odd())), append(l.Clocks, int64(odd()))
	}
	if r.Intn(3) == 0 {
		l.Steps = stepsOf(l.Picks)
	}
	return l
}

// P0.1: nothing panics, whatever is handed in, and the functions agree on which logs they take.
func TestTotal(t *testing.T) {
	r := rand.New(rand.NewSource(5))
	programs := []api.Program{{}, {Funcs: []api.Func{{Name: "main", Body: []api.Node{{Kind: 99}}}}}}
	for _, text := range texts() {
		programs = append(programs, parsed(t, text))
	}
	for range 3000 {
		p, l := programs[r.Intn(len(programs))], junkLog(r)
		n := r.Intn(12) - 3
		e := record.Check(p, l)
		if e == api.OK {
			t.Fatalf("%+v is of a program", l) // its sum cannot be right
		}
		if _, f := record.Given(p, l); f != e {
			t.Errorf("%+v: Given: error %d, Check: %d", l, f, e)
		}
		if _, f := record.Prefix(p, l, n); f != e {
			t.Errorf("%+v: Prefix: error %d, Check: %d", l, f, e)
		}
		if _, f := record.Preemptions(p, l); f != e {
			t.Errorf("%+v: Preemptions: error %d, Check: %d", l, f, e)
		}
		if x, f := record.Open(p, l, n); f != e || x != nil {
			t.Errorf("%+v: Open: error %d, Check: %d", l, f, e)
		}
		shape := record.Shape(l)
		if b, f := record.Encode(l); f != shape || (len(b) > 0) != (f == api.OK) {
			t.Errorf("%+v: Encode: error %d, Shape: %d", l, f, shape)
		}
		record.Record(p, api.Given{Inputs: l.Inputs, Clocks: l.Clocks}, n)
		record.Follow(p, api.Given{Inputs: l.Inputs, Clocks: l.Clocks}, l.Picks, n)
		b := make([]byte, r.Intn(40))
		r.Read(b)
		if k, f := record.Decode(b); f == api.OK || !isEmptyLog(k) {
			t.Errorf("% x: error %d, %+v", b, f, k)
		}
		if k, f := record.Decode(closed(append([]byte("SLOG\x01"), b...))); f != api.OK && (f != api.ErrForm || !isEmptyLog(k)) {
			t.Errorf("% x: error %d, %+v", b, f, k)
		}
	}
}
