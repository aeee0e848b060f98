package learn_test

import (
	"slices"
	"testing"

	"sleuth/api"
	"sleuth/lang"
	"sleuth/learn"
)

// on returns a contract with the claims of a text, whose first name is a, whose second one is b, and so on.
func on(at int, about, text string) api.Contract {
	return api.Contract{At: at, Names: names(about), Claims: claims(text)}
}

// P8.3: the errors of a contract, and which one is told first.
func TestCheckContract(t *testing.T) {
	p := body(t, "let i = input; let s = 0; let g = fn (q) { return q + i; }; while i > 0 { s = s + g.(i); i = i - 1; } print s;")
	// 0 let i, 1 let s, 2 let g, 3 return, 4 while, 5 s = .., 6 i = .., 7 print
	many := make([]api.Invariant, api.MaxClaims+1)
	for i := range many {
		many[i] = claim("a == 0")
	}
	wrong := inv(api.ClNone, 0, 0, 0, 0)
	for _, x := range []struct {
		c    api.Contract
		want api.Errno
	}{
		{api.Contract{At: 0}, api.OK}, {on(7, "", ""), api.OK}, {on(7, "i", ""), api.OK}, {on(7, "s i", "a < b"), api.OK}, {on(7, "g s i", "a == 0, c == 2 * a + 1"), api.OK}, {on(3, "i q", "a < b"), api.OK}, {on(3, "q i", "a < b"), api.OK},
		{api.Contract{At: 8}, api.ErrNone}, {api.Contract{At: -1}, api.ErrNone}, {api.Contract{At: least, Names: names("i i"), Claims: many}, api.ErrNone},
		{on(7, "i i", ""), api.ErrTwice}, {on(7, "x i x", ""), api.ErrTwice}, {on(7, "i s g i", "a == 0"), api.ErrTwice}, {api.Contract{At: 7, Names: []string{"", ""}}, api.ErrTwice},
		{on(7, "x", ""), api.ErrName}, {on(0, "i", ""), api.ErrName}, {on(1, "s", ""), api.ErrName}, {on(7, "i q", ""), api.ErrName}, {on(3, "s", ""), api.ErrName}, {on(3, "g", ""), api.ErrName}, {api.Contract{At: 7, Names: []string{""}}, api.ErrName}, {api.Contract{At: 7, Names: names("i x"), Claims: many}, api.ErrName},
		{api.Contract{At: 7, Names: names("i"), Claims: many}, api.ErrLimit}, {api.Contract{At: 7, Claims: many}, api.ErrLimit}, {api.Contract{At: 7, Names: names("i"), Claims: append(slices.Clone(many), wrong)}, api.ErrLimit}, {api.Contract{At: 7, Names: names("i"), Claims: many[1:]}, api.OK},
		{on(7, "", "a == 0"), api.ErrArg}, {api.Contract{At: 7, Claims: []api.Invariant{inv(api.ClConst, 0, 0, top+1, 0)}}, api.ErrArg},
		{on(7, "i", "a == 0, b == 0"), api.ErrArg}, {on(7, "i s", "a == 0, b == 0"), api.OK}, {on(7, "i s", "a == 0, a < c"), api.ErrArg},
		{api.Contract{At: 7, Names: names("i"), Claims: []api.Invariant{inv(api.ClConst, 0, 0, top+1, 0), wrong}}, api.ErrLimit}, {api.Contract{At: 7, Names: names("i"), Claims: []api.Invariant{wrong, inv(api.ClConst, 0, 0, top+1, 0)}}, api.ErrArg},
	} {
		if e := learn.CheckContract(p, x.c); e != x.want {
			t.Errorf("%v: error %d, not %d", x.c, e, x.want)
		}
		b, broken, o, e := learn.Keeps(p, []api.Contract{{At: 0}, x.c}, given(1), 200)
		if e != x.want || e != api.OK && (b != (api.Breach{}) || broken || !sameOutcome(o, api.Outcome{})) {
			t.Errorf("Keeps(%v): %v, %v, %v, error %d, not %d", x.c, b, broken, o, e, x.want)
		}
	}
	for want, q := range brokenPrograms(t) {
		if e := learn.CheckContract(q, api.Contract{At: -1, Names: names("i i"), Claims: many}); e != want {
			t.Error(want, e)
		}
	}
}

// P8.3: of more names than are watched, those behind the first MaxVars may not be named.
func TestCheckContractMany(t *testing.T) {
	p := body(t, "let a = 1; let b = 1; let c = 1; let d = 1; let e = 1; let f = 1; let g = 1; let h = 1; let i = 1; print i;")
	for about, want := range map[string]api.Errno{"a b c d e f g h": api.OK, "h g f": api.OK, "i": api.ErrName, "a b c d e f g h i": api.ErrName, "a b c d e f g h i a": api.ErrTwice} {
		if e := learn.CheckContract(p, on(9, about, "a == 1")); e != want {
			t.Errorf("%s: error %d, not %d", about, e, want)
		}
	}
}

// P8.3: the errors of Keeps and of Oracle, and which one is told first.
func TestKeepsErrors(t *testing.T) {
	p := body(t, "let a = input; print a;")
	fine := on(1, "a", "a == 1")
	many := slices.Repeat([]api.Contract{fine}, api.MaxContracts+1)
	long := api.Given{Inputs: make([]int64, api.MaxGiven+1)}
	twice := brokenPrograms(t)[api.ErrTwice]
	for _, x := range []struct {
		p    api.Program
		l    []api.Contract
		g    api.Given
		fuel int
		want api.Errno
	}{
		{p, nil, given(), -1, api.ErrArg}, {twice, many, long, api.MaxSteps + 1, api.ErrArg}, {p, nil, given(), least, api.ErrArg},
		{twice, nil, given(), 9, api.ErrTwice}, {twice, many, long, 9, api.ErrTwice}, {brokenPrograms(t)[api.ErrName], many, given(), 9, api.ErrName},
		{p, many, long, 9, api.ErrLimit}, {p, append(many, on(5, "", "")), given(), 9, api.ErrLimit}, {p, many[1:], given(1), 99, api.OK},
		{p, []api.Contract{on(1, "b", "")}, given(), 9, api.ErrName}, {p, []api.Contract{fine, on(2, "a", "a == 1"), on(1, "b", "")}, long, 9, api.ErrNone}, {p, []api.Contract{fine, on(1, "b", ""), on(2, "a", "a == 1")}, long, 9, api.ErrName},
		{p, []api.Contract{fine}, long, 9, api.ErrLimit}, {p, nil, api.Given{Clocks: long.Inputs}, 9, api.ErrLimit}, {p, nil, api.Given{Picks: make([]uint8, api.MaxSteps+1)}, 0, api.ErrLimit},
	} {
		b, broken, o, e := learn.Keeps(x.p, x.l, x.g, x.fuel)
		if e != x.want || e != api.OK && (b != (api.Breach{}) || broken || !sameOutcome(o, api.Outcome{})) {
			t.Errorf("Keeps(%v, %d): %v, %v, %v, error %d, not %d", x.l, x.fuel, b, broken, o, e, x.want)
		}
		v, e := learn.Oracle(x.p, x.l, x.g, x.fuel)
		if e != x.want || e != api.OK && v != api.VeNone {
			t.Errorf("Oracle(%v, %d): %d, error %d, not %d", x.l, x.fuel, v, e, x.want)
		}
	}
}

// P8.3: contracts that are kept and broken, and which breach is the first.
func TestKeeps(t *testing.T) {
	loop := body(t, "let i = input; let s = 0; while i > 0 { s = s + i; i = i - 1; } print s;")
	refs := body(t, "let x = input; let y = new(1); if x { y = x; } print x;")
	threads := parsed(t, "fun f(n) { print n; } fun main() { let a = spawn f(1); let b = spawn f(2); join a; join b; }")
	closed := body(t, "let b = 2; let g = fn (c) { print b + c; }; g.(1); b = 9; g.(3);")
	for _, x := range []struct {
		p      api.Program
		l      []api.Contract
		g      api.Given
		fuel   int
		step   int // -1: no breach
		at     int // the contract
		claim  int
		oracle api.Verdict
	}{
		// the while begins at the steps 4, 17, 30 and 43: its condition has 4 steps, each statement in it 4, and there is the jump
		{loop, nil, given(3), 200, -1, 0, 0, api.VePass}, {loop, []api.Contract{on(2, "i s", "")}, given(3), 200, -1, 0, 0, api.VePass}, {loop, []api.Contract{{At: 0}}, given(), 200, -1, 0, 0, api.VeUnknown},
		{loop, []api.Contract{on(2, "i s", "a >= 0, b <= 6")}, given(3), 200, -1, 0, 0, api.VePass}, {loop, []api.Contract{on(2, "i s", "a >= 0, b <= 5")}, given(3), 200, 43, 0, 1, api.VeFail},
		{loop, []api.Contract{on(2, "i s", "a >= 0, b <= 2")}, given(3), 200, 17, 0, 1, api.VeFail}, {loop, []api.Contract{on(2, "s i", "a <= 2")}, given(3), 200, 17, 0, 0, api.VeFail}, {loop, []api.Contract{on(2, "i", "a == 3")}, given(3), 200, 17, 0, 0, api.VeFail},
		{loop, []api.Contract{on(5, "s", "a == 5"), on(3, "i", "a >= 2")}, given(3), 200, 34, 1, 0, api.VeFail}, {loop, []api.Contract{on(5, "s", "a == 5")}, given(3), 200, 47, 0, 0, api.VeFail}, {loop, []api.Contract{on(5, "s", "a == 5")}, given(3), 47, -1, 0, 0, api.VeUnknown}, {loop, []api.Contract{on(5, "s", "a == 5")}, given(3), 48, 47, 0, 0, api.VeFail},
		{loop, []api.Contract{on(2, "i s", "a >= 3"), on(2, "i s", "a >= 4"), on(2, "s", "a == 1")}, given(3), 200, 4, 1, 0, api.VeFail}, {loop, []api.Contract{on(2, "i s", "a >= 4, b == 1"), on(2, "s", "a == 1")}, given(3), 200, 4, 0, 0, api.VeFail},
		{loop, []api.Contract{on(2, "i s", "a >= 3, b == 0, b == 1, a == 9")}, given(3), 200, 4, 0, 2, api.VeFail}, {loop, []api.Contract{on(1, "i", "a == 4")}, given(3), 0, -1, 0, 0, api.VeUnknown}, {loop, []api.Contract{on(1, "i", "a == 4")}, given(3), 2, -1, 0, 0, api.VeUnknown}, {loop, []api.Contract{on(1, "i", "a == 4")}, given(3), 3, 2, 0, 0, api.VeFail},
		// values that are not plain
		{loop, []api.Contract{on(1, "i", "a >= 0")}, given(top), 99, -1, 0, 0, api.VeUnknown}, {loop, []api.Contract{on(1, "i", "a >= 0")}, given(top + 1), 99, 2, 0, 0, api.VeFail}, {loop, []api.Contract{on(1, "i", "a <= 0")}, given(-top), 99, -1, 0, 0, api.VePass}, {loop, []api.Contract{on(1, "i", "a <= 0")}, given(-top - 1), 99, 2, 0, 0, api.VeFail}, {loop, []api.Contract{on(1, "i", "a != 0")}, given(least), 99, 2, 0, 0, api.VeFail},
		{loop, []api.Contract{on(1, "i", "")}, given(top + 1), 99, -1, 0, 0, api.VeUnknown}, {loop, []api.Contract{on(5, "s i", "a == 0, a != b")}, given(-top - 1), 99, 8, 0, 1, api.VeFail}, {loop, []api.Contract{on(5, "i s", "b == 0, a != b")}, given(-top - 1), 99, 8, 0, 1, api.VeFail}, {loop, []api.Contract{on(5, "i s", "b == 0 * a + 0")}, given(-top - 1), 99, 8, 0, 0, api.VeFail}, {loop, []api.Contract{on(5, "i s", "a < b")}, given(-top - 1), 99, 8, 0, 0, api.VeFail},
		{refs, []api.Contract{on(4, "x y", "a == 1, a == b")}, given(1), 99, -1, 0, 0, api.VePass}, {refs, []api.Contract{on(4, "x y", "a == 0, a == b")}, given(0), 99, 7, 0, 1, api.VeFail}, {refs, []api.Contract{on(4, "x y", "a == 0, b == 0")}, given(0), 99, 7, 0, 1, api.VeFail}, {refs, []api.Contract{on(4, "x y", "b >= 0")}, given(0), 99, 7, 0, 0, api.VeFail}, {refs, []api.Contract{on(4, "x y", "a == 0")}, given(0), 99, -1, 0, 0, api.VePass},
		// frames and threads of their own
		{threads, []api.Contract{on(0, "n", "a == 1")}, api.Given{}, 99, 13, 0, 0, api.VeFail}, {threads, []api.Contract{on(0, "n", "a == 2")}, api.Given{}, 99, 7, 0, 0, api.VeFail}, {threads, []api.Contract{on(0, "n", "a in 1 2"), on(4, "a b", "a < b, b == 3")}, api.Given{}, 99, 12, 1, 1, api.VeFail}, {threads, []api.Contract{on(0, "n", "a == 1")}, api.Given{Picks: []uint8{0, 0, 0, 0, 0, 0, 2, 2}}, 99, 6, 0, 0, api.VeFail},
		{closed, []api.Contract{on(2, "b c", "a == 2, b < a")}, api.Given{}, 99, 19, 0, 1, api.VeFail}, {closed, []api.Contract{on(2, "c b", "b == 2")}, api.Given{}, 99, -1, 0, 0, api.VePass},
		// the breach is in a run that does not end well, too
		{body(t, "let a = 1; print input;"), []api.Contract{on(1, "a", "a == 0")}, given(), 99, 2, 0, 0, api.VeFail}, {body(t, "let a = 1; throw 5;"), []api.Contract{on(1, "a", "a == 1")}, given(), 99, -1, 0, 0, api.VeUnknown}, {body(t, "let a = 1; assert 0;"), []api.Contract{on(1, "a", "a == 1")}, given(), 99, -1, 0, 0, api.VeUnknown},
	} {
		r := ran(t, x.p, x.g, x.fuel)
		b, broken, o, e := learn.Keeps(x.p, x.l, x.g, x.fuel)
		want := api.Breach{Step: x.step, Contract: x.at, Claim: x.claim}
		if x.step < 0 {
			want = api.Breach{}
		}
		if e != api.OK || broken != (x.step >= 0) || b != want || !sameOutcome(o, r.outcome) {
			t.Errorf("Keeps(%s, %v, %v, %d): %v, %v, %v, error %d, not %v, %v", written(t, x.p), x.l, x.g, x.fuel, b, broken, o, e, want, r.outcome)
		}
		if v, e := learn.Oracle(x.p, x.l, x.g, x.fuel); e != api.OK || v != x.oracle {
			t.Errorf("Oracle(%s, %v, %v, %d): %d, error %d, not %d", written(t, x.p), x.l, x.g, x.fuel, v, e, x.oracle)
		}
	}
}

// breach looks for the first breach in the trace of a run.
func breach(t *testing.T, p api.Program, l []api.Contract, r run) (api.Breach, bool) {
	t.Helper()
	type at struct{ step, contract int }
	var all []at
	for i, c := range l {
		for _, step := range r.begins(t, c.At) {
			all = append(all, at{step, i})
		}
	}
	slices.SortFunc(all, func(a, b at) int {
		if a.step != b.step {
			return a.step - b.step
		}
		return a.contract - b.contract
	})
	for _, x := range all {
		c := l[x.contract]
		known, registers := watched(t, p, c.At)
		var own []int
		for _, s := range c.Names {
			own = append(own, registers[slices.Index(known, s)])
		}
		values := r.values(t, x.step, own)
		row := make([]int64, len(values))
		for i, v := range values {
			row[i] = v.N
		}
		for i, y := range c.Claims {
			b := y.A
			if y.Kind >= api.ClEqual {
				b = y.B
			}
			if !isPlain(values[y.A]) || !isPlain(values[b]) || !holds(y, row) {
				return api.Breach{Step: x.step, Contract: x.contract, Claim: i}, true
			}
		}
	}
	return api.Breach{}, false
}

// P8.3: the first breaches of random contracts in random runs are those that traces tell.
func TestKeepsAgainstTraces(t *testing.T) {
	kept, broken, later := 0, 0, 0
	programs(t, 150, func(m *maker, p api.Program) {
		fuel := 1 + m.Intn(500)
		g := m.given()
		for range 4 {
			var l []api.Contract
			for range 1 + m.Intn(3) {
				n := m.Intn(lang.Count(p))
				c, e := learn.Learn(p, n, []api.Given{m.given(), m.given(), g}[m.Intn(2):], 400, 1)
				if e != api.OK {
					t.Fatal(e)
				}
				if len(c.Names) > 0 && m.Intn(3) == 0 {
					c.Claims = append(c.Claims, validClaim(m.Rand, len(c.Names)))
				}
				if all, _ := watched(t, p, n); len(all) > 0 && m.Intn(9) == 0 {
					m.Shuffle(len(all), func(i, j int) { all[i], all[j] = all[j], all[i] })
					c.Names = all
				}
				m.Shuffle(len(c.Claims), func(i, j int) { c.Claims[i], c.Claims[j] = c.Claims[j], c.Claims[i] })
				l = append(l, c)
			}
			r := ran(t, p, g, fuel)
			want, is := breach(t, p, l, r)
			b, not, o, e := learn.Keeps(p, l, g, fuel)
			if e != api.OK || not != is || b != want || !sameOutcome(o, r.outcome) {
				t.Errorf("Keeps(%v, %v, %d): %v, %v, %v, error %d, not %v, %v, %v", l, g, fuel, b, not, o, e, want, is, r.outcome)
			}
			verdict := api.VeUnknown
			switch {
			case is:
				verdict = api.VeFail
				broken++
				later += min(want.Contract, 1)
			default:
				kept++
				if r.outcome.End == api.EnDone {
					verdict = api.VePass
				}
			}
			if v, e := learn.Oracle(p, l, g, fuel); e != api.OK || v != verdict {
				t.Errorf("Oracle(%v): %d, error %d, not %d", l, v, e, verdict)
			}
		}
	})
	if kept < 100 || broken < 60 || later < 20 {
		t.Error(kept, broken, later)
	}
}
