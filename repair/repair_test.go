package repair_test

import (
	"math/rand"
	"slices"
	"strings"
	"testing"

	"sleuth/api"
	"sleuth/lang"
	"sleuth/learn"
	"sleuth/machine"
	"sleuth/rank"
	"sleuth/repair"
)

// repaired returns repairs, without an error.
func repaired(t *testing.T, p api.Program, s api.Suite, at []int, most int) []api.Repair {
	t.Helper()
	l, e := repair.Repair(p, s, at, most)
	if e != api.OK || len(l) > most {
		t.Fatalf("Repair(%s, %v, %d) by %s: %v, error %d", written(t, p), at, most, describe(s), l, e)
	}
	return l
}

// writtenRepairs writes the patches of repairs, with bars between them.
func writtenRepairs(t *testing.T, l []api.Repair) string {
	t.Helper()
	var texts []string
	for _, r := range l {
		texts = append(texts, writtenPatch(t, r.Patch))
	}
	return strings.Join(texts, " | ")
}

// P9.3: repairs, worked out by hand.
func TestRepair(t *testing.T) {
	suite := func(text, domain string, inputs int, l ...api.Contract) api.Suite {
		return api.Suite{Tests: tests(text), Domain: wide(domain), Inputs: inputs, Contracts: l, Fuel: 99}
	}
	either := "let x = input; if x { print 1; } else { print 2; }"
	pair := "let x = input; if x >= 1 { print 7; } if x >= 1 { print 7; }" // 0 let, 1 if, 2 print, 3 if, 4 print
	loop := "let i = 0; while i < 3 { print 7; i = i + 1; }"               // 0 let, 1 while, 2 print, 3 set
	for _, c := range []struct {
		body string
		s    api.Suite
		at   string
		most int
		want string
	}{
		{product, suite("2 3 > 5, 0 0 > 0", "", 0), "0 1 2 3", 16, "2: let z = x + y;"},
		{product, suite("2 3 > 5, 0 0 > 0", "0 5", 0), "3 2", 16, "3: print x + y; | 2: let z = x + y;"}, // of 2, what is fitted is the template
		{product, suite("2 3 > 5, 0 0 > 0", "0 5", 0), "2 3", 16, "2: let z = x + y; | 3: print x + y;"},
		{product, suite("2 3 > 5, 0 0 > 0", "0 5", 0), "3 2", 1, "3: print x + y;"},
		{product, suite("2 3 > 5, 0 0 > 0", "0 4", 0), "3", 16, ""}, // the domain has not what is wanted
		{product, api.Suite{Tests: tests("2 3 > 5"), Domain: wide("0 5"), Fuel: 7}, "3 2", 16, ""},
		// none are asked for, no statements, no program
		{product, suite("2 3 > 5, 0 0 > 0", "0 5", 0), "3 2", 0, ""}, {product, suite("2 3 > 5, 0 0 > 0", "0 5", 0), "", 16, ""}, {"", api.Suite{}, "", 16, ""},
		// by templates: one more, one less, the opposite, nothing at all
		{"print 1;", suite("> 2", "2", 0), "0", 16, "0: print 2;"}, {"print 1;", suite("> 0", "", 0), "0", 16, "0: print 0;"}, {"let a = 1; print a; print 3;", suite("> 3", "", 0), "1", 16, "1:"},
		{either, suite("0 > 1, 5 > 2", "", 0), "1", 16, "1: if !x { print 1; } else { print 2; }"}, {either, suite("0 > 1, 5 > 2", "0 1", 0), "1", 16, "1: if !x { print 1; } else { print 2; } | 1: if x == 0 { print 1; } else { print 2; }"},
		// by donors
		{"print 1; print 2;", suite("> 2 1 2", "", 0), "0", 16, "0: print 2; print 1;"}, {"print 1; print 2;", suite("> 2 1 2", "", 0), "1", 16, ""}, {"print 1; print 5;", suite("> 5 5", "", 0), "0 1", 16, "0: print 5;"},
		// by what is fitted: three choices, three nodes
		{loop, suite("> 0 1 2", "0 1 2", 0), "2", 16, "2: print i;"}, {strings.Replace(loop, "3", "4", 1), suite("> 0 1 2 3", "0 1 2 3", 0), "2", 16, ""}, {loop, suite("> 1 2 5", "1 2 5", 0), "2", 16, ""}, {loop, suite("> 0 1 4", "0 1 4", 0), "2", 16, "2: print i * i;"},
		// a program that there was, or the one to be changed, is passed over
		{"print 1; print 1; print 2;", suite("> 1 2", "", 0), "0 1", 16, "0:"}, {"print 1; print 1; print 2;", suite("> 1 2", "", 0), "1 0", 16, "1:"}, {"print 1; print 1; print 2;", suite("> 1 1 2", "", 0), "0 1 2", 16, ""}, {"print 1; print 1;", suite("> 1 1", "1", 0), "0 1", 16, ""},
		// also if that one was not accepted, because it loses a contract
		{"print 1; print 1; print 2;", suite("> 1 2", "", 0, api.Contract{At: 0}), "0 1", 16, ""}, {"print 1; print 1; print 2;", suite("> 1 2", "", 0, api.Contract{At: 0}), "1 0", 16, "1:"},
		{pair, suite("3 > 7 7", "", 0, on(1, "x", "x >= 1")), "2", 16, "2: if x >= 1 { print 7; }"}, {pair, suite("3 > 7 7", "", 0, on(1, "x", "x >= 1")), "1 2", 16, ""}, // this is the guard of 1, too
		{"let x = input; print x;", suite("3 >, 5 > 5", "", 0, on(1, "x", "x >= 5")), "1", 16, ""},                  // so does each edit of its statement, a guard included
		{"let x = input; print x; print 9;", suite("5 > 9 9", "", 0, on(2, "x", "x >= 5")), "1", 16, "1: print 9;"}, // contracts of others make no guards
		// contracts that are broken in the run of a test, or within the bound
		{"let x = input; let y = x; print y;", suite("3 > 4", "4", 0), "1", 16, "1: let y = x + 1;"}, {"let x = input; let y = x; print y;", suite("3 > 4", "4", 0, on(2, "y", "y <= 3")), "1", 16, ""},
		{"let x = input; let y = x; print y;", suite("3 > 4", "4 9", 0, on(2, "y", "y <= 9")), "1", 16, "1: let y = x + 1;"}, {"let x = input; let y = x; print y;", suite("3 > 4", "4 9", 1, on(2, "y", "y <= 9")), "1", 16, ""}, {"let x = input; let y = x; print y;", suite("3 > 4", "4 8", 1, on(2, "y", "y <= 9")), "1", 16, "1: let y = x + 1;"},
	} {
		if s := writtenRepairs(t, repaired(t, body(t, c.body), c.s, numbers(c.at), c.most)); s != c.want {
			t.Errorf("Repair(%s; %s; %d) by %s: %s, want %s", c.body, c.at, c.most, describe(c.s), s, c.want)
		}
	}
}

// P9.3: the judgement of a repair is the one of Judge.
func TestRepairJudgement(t *testing.T) {
	p := body(t, product)
	s := api.Suite{Tests: tests("2 3 > 5"), Domain: wide("0 1"), Inputs: 2, Contracts: []api.Contract{on(3, "x z", "x <= z")}, Fuel: 99}
	l := repaired(t, p, s, []int{2}, 16)
	if len(l) != 1 || !sameJudgement(l[0].Judgement, api.Judgement{Changed: []int{1, 2, 3}, Worse: []int{1, 3}}) {
		t.Error(l)
	}
}

// P9.3: the errors of Repair behind those of CheckSuite.
func TestRepairErrors(t *testing.T) {
	p := body(t, "let a = 1; print fn () { print 2; };")
	for i, c := range []struct {
		at   []int
		most int
		want api.Errno
	}{
		{nil, 0, api.OK}, {[]int{2, 0, 1}, api.MaxRepairs, api.OK}, {[]int{}, 1, api.OK},
		{[]int{3}, -1, api.ErrArg}, {[]int{0, -1}, 99, api.ErrArg}, {[]int{0, 1, 0}, 99, api.ErrArg}, {[]int{1, 1}, 0, api.ErrArg}, {[]int{least}, 1, api.ErrArg}, {[]int{greatest}, 1, api.ErrArg}, {make([]int, 100000), 1, api.ErrArg},
		{nil, -1, api.ErrArg}, {[]int{0}, least, api.ErrArg}, {nil, api.MaxRepairs + 1, api.ErrLimit}, {[]int{0}, greatest, api.ErrLimit},
	} {
		if l, e := repair.Repair(p, api.Suite{Fuel: 9, Tests: tests("> 9")}, c.at, c.most); e != c.want || len(l) > 0 {
			t.Errorf("Repair, case %d: %v, error %d, want %d", i, l, e, c.want)
		}
		if l, e := repair.Repair(p, api.Suite{Fuel: -1}, c.at, c.most); e != api.ErrArg || len(l) > 0 {
			t.Errorf("Repair, case %d: %v, error %d", i, l, e)
		}
		if l, e := repair.Repair(p, api.Suite{Tests: make([]api.Test, api.MaxTests+1)}, c.at, c.most); e != api.ErrLimit || len(l) > 0 {
			t.Errorf("Repair, case %d: %v, error %d", i, l, e)
		}
	}
}

// modelRepair asks the exported functions for all candidates, one after the other.
func modelRepair(t *testing.T, p api.Program, s api.Suite, at []int, most int) (found []api.Repair) {
	t.Helper()
	before := []api.Program{p}
	for _, n := range at {
		l := slices.Concat(templates(t, p, n), donors(t, p, n))
		for _, c := range s.Contracts {
			if c.At == n {
				l = append(l, guards(t, p, c)...)
			}
		}
		if x, ok, e := repair.Fit(p, n, s.Tests, s.Domain, 3, s.Fuel, 3); ok && e == api.OK {
			l = append(l, x)
		}
		for _, x := range l {
			q := applied(t, p, patchOf(x))
			if slices.ContainsFunc(before, func(r api.Program) bool { return lang.Same(q, r) }) {
				continue
			}
			before = append(before, q)
			if len(found) == most {
				return found
			}
			if j := judged(t, p, patchOf(x), s); repair.Accepts(j) {
				found = append(found, api.Repair{Patch: patchOf(x), Judgement: j})
			}
		}
	}
	return found
}

// check checks what an accepted repair is to keep, run by run: P9.5, P0.7.
func check(t *testing.T, p api.Program, s api.Suite, r api.Repair) {
	t.Helper()
	q := applied(t, p, r.Patch)
	moved, _ := repair.Moved(p, r.Patch)
	keeps := func(g api.Given) {
		for _, c := range s.Contracts {
			c.At = moved[c.At]
			if _, broken, _, e := learn.Keeps(q, []api.Contract{c}, g, s.Fuel); broken || e != api.OK {
				t.Errorf("%s breaks %v for %v: error %d", writtenPatch(t, r.Patch), c, g, e)
			}
		}
	}
	for _, test := range s.Tests {
		if ok, e := rank.Meets(q, test, s.Fuel); !ok || e != api.OK {
			t.Errorf("%s does not meet %v: error %d", writtenPatch(t, r.Patch), test, e)
		}
		keeps(test.Given)
	}
	runs, _ := repair.Runs(s)
	for n, run := range runs {
		keeps(given(run...))
		a, _ := machine.Run(p, given(run...), s.Fuel)
		b, _ := machine.Run(q, given(run...), s.Fuel)
		if isAlike(a, b) == slices.Contains(r.Judgement.Changed, n) {
			t.Errorf("%s: run %d comes to %v and %v", writtenPatch(t, r.Patch), n, a, b)
		}
	}
}

// broken returns a program that one of the templates has changed.
func (m *maker) broken(t *testing.T, p api.Program) api.Program {
	t.Helper()
	for range 20 {
		if l := templates(t, p, m.Intn(lang.Count(p))); len(l) > 0 {
			return applied(t, p, patchOf(l[m.Intn(len(l))]))
		}
	}
	return p
}

// P9.3, P9.5: repairs of random programs that were right before.
func TestRandomRepairs(t *testing.T) {
	found, few, contracts := 0, 0, 0
	programs(t, 130, 5, false, func(m *maker, right api.Program) {
		p := m.broken(t, right)
		s := m.suite(t, p)
		s.Fuel = min(s.Fuel, 150)
		s.Inputs = min(s.Inputs, 2)
		for i := range s.Tests {
			s.Tests[i].Given.Inputs = append(s.Tests[i].Given.Inputs, 1, 0, 2)
			o, _ := machine.Run(right, s.Tests[i].Given, s.Fuel)
			s.Tests[i].Out = o.Out
		}
		at := rand.New(m).Perm(lang.Count(p))
		at = at[:min(len(at), 2+m.Intn(6))]
		s.Contracts = slices.DeleteFunc(s.Contracts, func(c api.Contract) bool { return slices.Contains(at[1:], c.At) })
		most := m.Intn(6)
		l, want := repaired(t, p, s, at, most), modelRepair(t, p, s, at, most)
		same := func(a, b api.Repair) bool {
			return samePatch(a.Patch, b.Patch) && sameJudgement(a.Judgement, b.Judgement)
		}
		if !slices.EqualFunc(l, want, same) {
			t.Errorf("Repair(%s, %v, %d) by %s: %s, want %s", written(t, p), at, most, describe(s), writtenRepairs(t, l), writtenRepairs(t, want))
		}
		for _, r := range l {
			check(t, p, s, r)
			contracts += len(s.Contracts)
		}
		found += len(l)
		if len(l) < most {
			few++
		}
	})
	if found < 60 || few < 20 || contracts < 20 {
		t.Error("too few cases:", found, few, contracts)
	}
}
