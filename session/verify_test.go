package session_test

import (
	"math/rand"
	"reflect"
	"slices"
	"strings"
	"testing"

	"sleuth/api"
	"sleuth/session"
)

// P10.1: evidence of every kind holds; and which fields a kind has, how many elements some of them have, and which error is told first.
func TestForms(t *testing.T) {
	extra := api.Evidence{
		Other: "x", Logs: []api.Log{{}}, Tests: []api.Test{{}}, Contracts: []api.Contract{{}}, Patch: api.Patch{Edits: []api.Edit{{}}},
		Picks: []api.Pick{{}}, Set: []int{0}, Places: []api.Place{{}}, Rest: []api.Place{{}}, Witness: [][]int64{nil},
	}
	for _, x := range every(t) {
		kind := named[x.Kind]
		verified(t, kind, x, api.OK)
		v := reflect.ValueOf(&x).Elem()
		for i := range v.NumField() {
			name := v.Type().Field(i).Name
			if name == "Kind" || name == "Program" || name == "Numbers" || slices.Contains(strings.Fields(kind), name) {
				continue
			}
			y := cloned(x)
			reflect.ValueOf(&y).Elem().Field(i).Set(reflect.ValueOf(extra).Field(i))
			verified(t, "a field that the kind does not have: "+name, y, api.ErrArg)
			y.Program += " "
			verified(t, "a program of another form, and a field too many", y, api.ErrForm)
			y.Kind = api.PrRepair + 1
			verified(t, "no kind, and a program of another form", y, api.ErrArg)
		}
		for _, change := range []func(y *api.Evidence){
			func(y *api.Evidence) { y.Logs = append(y.Logs, y.Logs...) },
			func(y *api.Evidence) { y.Logs = append(y.Logs, api.Log{}) },
			func(y *api.Evidence) { y.Logs = y.Logs[:max(len(y.Logs)-1, 0)] },
		} {
			y := cloned(x)
			if change(&y); len(y.Logs) != len(x.Logs) {
				verified(t, "another number of logs", y, api.ErrArg)
			}
		}
		verifyNumbers(t, x)
	}
	verified(t, "nothing", api.Evidence{}, api.ErrArg)
	verified(t, "another kind", api.Evidence{Kind: 10}, api.ErrArg)
	verified(t, "another kind", api.Evidence{Kind: 255, Program: writtenForm(t, minus)}, api.ErrArg)
}

// verifyNumbers checks how many numbers an evidence may have.
func verifyNumbers(t *testing.T, x api.Evidence) {
	t.Helper()
	bounds := numberCount[x.Kind]
	y := cloned(x)
	for n := range bounds[0] {
		y.Numbers = x.Numbers[:n]
		verified(t, "too few numbers", y, api.ErrArg)
	}
	y.Numbers = append(slices.Clone(x.Numbers), 7)
	if bounds[1] < len(y.Numbers) {
		verified(t, "too many numbers", y, api.ErrArg)
	}
}

// P10.1: texts that are not the written form of a correct program.
func TestPrograms(t *testing.T) {
	for _, x := range every(t) {
		for _, text := range []string{
			"", "x", "fun main() {", minus, x.Program + " ", x.Program + "\n", " " + x.Program, strings.TrimSuffix(x.Program, "\n"), strings.Replace(x.Program, "  ", "\t", 1),
			"fun main() {\n  print y;\n}\n", "fun f() {\n}\n", "fun main() {\n}\nfun main() {\n}\n", "# no\n" + x.Program, strings.Repeat(" ", 65537),
		} {
			y := x
			y.Program = text
			verified(t, "another text", y, api.ErrForm)
		}
		y := x
		y.Program = "fun main() {\n}\n"
		verified(t, "another program", y, wanted(y))
	}
}

// kindOf returns the evidence of a kind.
func kindOf(t *testing.T, k api.Proof) api.Evidence {
	t.Helper()
	return cloned(every(t)[k-1])
}

// change is a change of an evidence, with what Verify says then.
type change struct {
	about string
	do    func(x *api.Evidence)
	want  api.Errno
}

func verifyChanges(t *testing.T, k api.Proof, changes ...change) {
	t.Helper()
	for _, c := range changes {
		x := kindOf(t, k)
		c.do(&x)
		verified(t, c.about, x, c.want)
	}
}

// numbersAre returns a change of all numbers.
func numbersAre(about string, want api.Errno, l ...int64) change {
	return change{about, func(x *api.Evidence) { x.Numbers = l }, want}
}

func setIs(about string, want api.Errno, l ...int) change {
	return change{about, func(x *api.Evidence) { x.Set = l }, want}
}

// P10.1: evidence of runs, values, slices and races, some of which does not hold.
func TestVerifyRuns(t *testing.T) {
	verifyChanges(t, api.PrRun,
		numbersAre("the outcome", api.OK, 1, 0, 0, 10, -1),
		numbersAre("another end", api.ErrState, 6, 0, 0, 10, -1),
		numbersAre("an end that is equal in its last byte", api.ErrState, 257, 0, 0, 10, -1),
		numbersAre("a fault", api.ErrState, 1, 1, 0, 10, -1),
		numbersAre("another line", api.ErrState, 1, 0, 1, 10, -1),
		numbersAre("other steps", api.ErrState, 1, 0, 0, 9, -1),
		numbersAre("another output", api.ErrState, 1, 0, 0, 10, 1),
		numbersAre("less output", api.ErrState, 1, 0, 0, 10),
		numbersAre("more output", api.ErrState, 1, 0, 0, 10, -1, -1),
		change{"no log of the program", func(x *api.Evidence) { x.Logs[0].Inputs[0] = 3 }, api.ErrState},
		change{"another sum", func(x *api.Evidence) { x.Logs[0].Sum++ }, api.ErrState},
		change{"an empty log", func(x *api.Evidence) { x.Logs[0] = api.Log{} }, api.ErrState},
		change{"an empty log, and nothing of an outcome", func(x *api.Evidence) { x.Logs[0], x.Numbers = api.Log{}, make([]int64, 4) }, api.ErrState},
	)
	verifyChanges(t, api.PrValue,
		numbersAre("the value", api.OK, 0, -1),
		numbersAre("another value", api.ErrState, 0, 1),
		numbersAre("another number", api.ErrState, 1, -1),
		numbersAre("the number -1", api.ErrState, -1, -1),
		numbersAre("the least number", api.ErrState, -1<<63, -1),
		setIs("the way", api.OK, 7, 6),
		setIs("half of the way", api.ErrState, 7),
		setIs("the way in another order", api.ErrState, 6, 7),
		setIs("no way", api.ErrState),
		change{"another sum", func(x *api.Evidence) { x.Logs[0].Sum++ }, api.ErrState},
	)
	verifyChanges(t, api.PrSlice,
		setIs("more than the slice", api.OK, 0, 1, 2, 3, 4, 5, 6, 7, 8, 9),
		setIs("the slice without the print", api.ErrState, 0, 1, 2, 3, 4, 5, 6),
		setIs("the slice without an input", api.ErrState, 1, 2, 3, 4, 5, 6, 7),
		setIs("not ascending", api.ErrState, 1, 0, 2, 3, 4, 5, 6, 7),
		setIs("no step", api.ErrState, 0, 1, 2, 3, 4, 5, 6, 7, 10),
		setIs("no steps", api.ErrState),
		numbersAre("another number", api.ErrState, 1),
		numbersAre("the number -1", api.ErrState, -1),
		change{"another sum", func(x *api.Evidence) { x.Logs[0].Sum++ }, api.ErrState},
	)
	verifyChanges(t, api.PrRace, // steps 12 and 17 load, 24 and 31 store
		numbersAre("the first race", api.OK, 0, 0, 12, 24),
		numbersAre("another race", api.OK, 0, 0, 17, 31),
		numbersAre("two stores", api.OK, 0, 0, 24, 31),
		numbersAre("two loads", api.ErrState, 0, 0, 12, 17),
		numbersAre("of one thread", api.ErrState, 0, 0, 12, 31),
		numbersAre("the other way round", api.ErrState, 0, 0, 24, 12),
		numbersAre("one step", api.ErrState, 0, 0, 24, 24),
		numbersAre("another cell", api.ErrState, 0, 1, 12, 24),
		numbersAre("another object", api.ErrState, 1, 0, 12, 24),
		numbersAre("a step ahead of it", api.ErrState, 0, 0, 11, 24),
		numbersAre("no step", api.ErrState, 0, 0, 12, 43),
		numbersAre("no step", api.ErrState, 0, 0, -1, 24),
		numbersAre("what makes the cell", api.ErrState, 0, 0, 1, 24),
		numbersAre("what comes behind the joins", api.ErrState, 0, 0, 31, 39),
		change{"another sum", func(x *api.Evidence) { x.Logs[0].Sum++ }, api.ErrState},
	)
}

// raceOf returns the evidence that two steps of a run of a program race at the cell 0 of an object.
func raceOf(t *testing.T, program, follow string, object, a, b int64) api.Evidence {
	t.Helper()
	s := began(t, "program p "+program, "follow r p 200 ; "+follow)
	x := last(t, s)
	x.Kind, x.Numbers = api.PrRace, []int64{object, 0, a, b}
	return x
}

// P10.1: steps that have no order, but of which one does not touch the cell, or makes what it is in.
func TestVerifyNoRace(t *testing.T) {
	const two = "fun w(o) { o[1] = 1; } fun main() { let o = new(2); let t = spawn w(o); o[0] = 2; print o[1]; print o[0]; }"
	// Main stores into the cell 0 in step 9, loads the cell 1 in step 12 and the cell 0 in step 16; the thread stores into the cell 1 in step 21.
	x := raceOf(t, two, "0 18 1 6", 0, 9, 21)
	verified(t, "the second one stores into another cell", x, api.ErrState)
	x.Numbers[1] = 1
	verified(t, "the first one stores into another cell", x, api.ErrState)
	x.Numbers[2] = 16
	verified(t, "the first one loads another cell", x, api.ErrState)
	x.Numbers[2] = 12
	verified(t, "a load and a store", x, api.OK)

	const made = "fun w(o) { o[0] = new(1); } fun main() { let o = new(1); let t = spawn w(o); let i = o[0]; print i[0]; }"
	s := began(t, "program p "+made, "follow r p 200 ; 0 6 1 6 0 20")
	if a := answer(t, s, "race r"); a != "race r: object 0 cell 0 steps 10 14 [X]" {
		t.Error(a)
	}
	// The thread makes object 1 in step 9, and stores it in step 10; main loads it in step 14, and its cell in step 18.
	verified(t, "the store and the load", raceOf(t, made, "0 6 1 6 0 20", 0, 10, 14), api.OK)
	verified(t, "what makes the cell", raceOf(t, made, "0 6 1 6 0 20", 1, 9, 18), api.ErrState)
	for a := range int64(20) {
		for b := range int64(20) {
			for object := range int64(3) {
				x := raceOf(t, made, "0 6 1 6 0 20", object, a, b)
				verified(t, "any two steps", x, wanted(x))
			}
		}
	}
}

// P10.1: evidence of a cause goes on with what the passing run was given.
func TestVerifyCauseInputs(t *testing.T) {
	s := began(t, "program p fun main() { let n = input; let m = input; assert n < 3; print m; }", "run c p 99 1 7", "run d p 99 4 8", "cause c d 2 99")
	x := last(t, s)
	verified(t, "an input that is read later", x, api.OK)
	x.Logs[0], x.Logs[1] = x.Logs[1], x.Logs[0]
	verified(t, "the other way round, where the input is another one", x, api.ErrState)
}

// P10.1: evidence of schedules and diagnoses.
func TestVerifySearches(t *testing.T) {
	picksAre := func(about string, want api.Errno, l ...int64) change {
		return change{about, func(x *api.Evidence) { x.Picks = pairs(l) }, want}
	}
	verifyChanges(t, api.PrSchedule,
		picksAre("minimized", api.OK, 0, 19, 1, 5, 2, 12, 1, 7),
		picksAre("without steps that are not taken", api.OK, 0, 10, 1, 5, 2, 12, 1, 7),
		picksAre("one step less, which makes no difference", api.OK, 0, 19, 1, 4, 2, 12, 1, 7),
		picksAre("what is not minimal", api.ErrState, 0, 10, 1, 5, 2, 12, 1, 7, 0, 9),
		picksAre("what does not fail", api.ErrState, 0, 19, 1, 12, 2, 12),
		picksAre("no picks", api.ErrState),
		picksAre("no normal form", api.ErrState, 0, 10, 0, 9, 1, 5, 2, 12, 1, 7),
		picksAre("a count of 0", api.ErrState, 0, 19, 1, 5, 2, 12, 1, 0),
		picksAre("no thread", api.ErrState, 0, 19, 8, 5, 2, 12, 1, 7),
		picksAre("too many steps", api.ErrState, 0, 65536, 1, 5, 2, 12, 1, 7),
		numbersAre("more fuel", api.OK, 65536),
		numbersAre("less fuel", api.ErrState, 42),
		numbersAre("too much fuel", api.ErrState, 65537),
		numbersAre("the least fuel", api.ErrState, -1<<63),
		change{"another sum", func(x *api.Evidence) { x.Logs[0].Sum++ }, api.ErrState},
		change{"of a run that ends well", func(x *api.Evidence) {
			l, _ := began(t, "program w "+racing, "run g w 200").Log("g")
			x.Logs[0] = l
		}, api.ErrState},
	)
	witnessIs := func(about string, want api.Errno, l ...[]int64) change {
		return change{about, func(x *api.Evidence) { x.Witness = l }, want}
	}
	verifyChanges(t, api.PrDiagnosis,
		witnessIs("the witness", api.OK, []int64{5}, []int64{4}),
		witnessIs("values that are not read", api.OK, []int64{5, 7}, []int64{4, 7, 8}),
		witnessIs("another value", api.ErrState, []int64{5}, []int64{5}),
		witnessIs("no value", api.ErrState, []int64{5}, nil),
		witnessIs("one witness", api.ErrState, []int64{5}),
		witnessIs("three witnesses", api.ErrState, []int64{5}, []int64{4}, []int64{4}),
		setIs("more statements", api.ErrState, 1, 2),
		setIs("nothing is open", api.ErrState),
		setIs("no statement", api.ErrState, 3),
		setIs("twice", api.ErrState, 2, 2),
		numbersAre("just enough fuel", api.OK, 8),
		numbersAre("too little fuel", api.ErrState, 7),
		numbersAre("no fuel", api.ErrState, -1),
		change{"no tests", func(x *api.Evidence) { x.Tests, x.Witness = nil, nil }, api.OK},
		change{"a test with a clock", func(x *api.Evidence) { x.Tests[0].Given.Clocks = []int64{5} }, api.ErrState},
		change{"a test with a pick", func(x *api.Evidence) { x.Tests[0].Given.Picks = []uint8{5} }, api.OK},
		change{"another output", func(x *api.Evidence) { x.Tests[0].Out[0] = 6 }, api.ErrState},
		change{"other inputs, which make no difference", func(x *api.Evidence) { x.Tests[0].Given.Inputs = []int64{1, 1} }, api.OK},
		change{"fewer inputs", func(x *api.Evidence) { x.Tests[0].Given.Inputs = []int64{1} }, api.ErrState},
	)
}

// P10.1: evidence of contracts and causes.
func TestVerifyContracts(t *testing.T) {
	verifyChanges(t, api.PrContract,
		change{"another claim", func(x *api.Evidence) { x.Contracts[0].Claims[0].K = 5 }, api.ErrState},
		change{"no claims", func(x *api.Evidence) { x.Contracts[0].Claims = nil }, api.OK},
		change{"a claim that is none", func(x *api.Evidence) { x.Contracts[0].Claims[0].M = 5 }, api.ErrState},
		change{"no name", func(x *api.Evidence) { x.Contracts[0].Names[0] = "z" }, api.ErrState},
		change{"no statement", func(x *api.Evidence) { x.Contracts[0].At = 3 }, api.ErrState},
		change{"other inputs", func(x *api.Evidence) { x.Tests[0].Given.Inputs[0] = 3 }, api.ErrState},
		change{"inputs with which it does not come so far", func(x *api.Evidence) { x.Tests[0].Given.Inputs = []int64{3} }, api.OK},
		change{"a second plan", func(x *api.Evidence) { x.Tests = append(x.Tests, api.Test{}) }, api.OK},
		change{"no plans", func(x *api.Evidence) { x.Tests = nil }, api.OK},
		change{"no plans, and no statement", func(x *api.Evidence) { x.Tests, x.Contracts[0].At = nil, 3 }, api.OK},
		change{"an output", func(x *api.Evidence) { x.Tests = append(x.Tests, api.Test{Out: []int64{0}}) }, api.ErrArg},
		change{"no contract", func(x *api.Evidence) { x.Contracts = nil }, api.ErrArg},
		change{"two contracts", func(x *api.Evidence) { x.Contracts = append(x.Contracts, x.Contracts...) }, api.ErrArg},
		numbersAre("another fuel", api.OK, 0),
		numbersAre("too much fuel", api.ErrState, 65537),
		numbersAre("too little fuel", api.ErrState, -1),
	)
	places := func(about string, want api.Errno, base, rest []api.Place) change {
		return change{about, func(x *api.Evidence) { x.Places, x.Rest = base, rest }, want}
	}
	n, s := api.Place{Kind: api.PlReg}, api.Place{Kind: api.PlReg, B: 2}
	verifyChanges(t, api.PrCause, // at state 2, the registers 0 (n) and 2 differ, of which 2 is written again
		places("n", api.OK, nil, []api.Place{n}),
		places("n behind register 2", api.OK, []api.Place{s}, []api.Place{n}),
		places("n and register 2", api.OK, nil, []api.Place{n, s}),
		places("register 2", api.ErrState, nil, []api.Place{s}),
		places("register 2 behind n", api.ErrState, []api.Place{n}, []api.Place{s}),
		places("nothing", api.ErrState, nil, nil),
		places("only what passes", api.ErrState, []api.Place{n}, nil),
		places("n twice", api.ErrState, nil, []api.Place{n, n}),
		places("n in both lists", api.ErrState, []api.Place{n}, []api.Place{n}),
		places("register 2 twice", api.ErrState, []api.Place{s, s}, []api.Place{n}),
		places("no difference", api.ErrState, nil, []api.Place{n, {Kind: api.PlReg, B: 1}}),
		places("no register", api.ErrState, nil, []api.Place{n, {Kind: api.PlReg, A: 1}}),
		places("no such place", api.ErrState, nil, []api.Place{n, {}}),
		numbersAre("the next state, where register 2 has n again", api.ErrState, 3, 99),
		numbersAre("the first state", api.ErrState, 0, 99),
		numbersAre("a state behind the end", api.ErrState, 12, 99),
		numbersAre("no state", api.ErrState, 13, 99),
		numbersAre("no state", api.ErrState, -1, 99),
		numbersAre("just enough fuel", api.OK, 2, 14),
		numbersAre("too little fuel", api.ErrState, 2, 13),
		numbersAre("no fuel", api.ErrState, 2, -1),
		numbersAre("too much fuel", api.ErrState, 2, 65537),
		change{"the other way round", func(x *api.Evidence) { x.Logs[0], x.Logs[1] = x.Logs[1], x.Logs[0] }, api.OK},
		change{"twice the same run", func(x *api.Evidence) { x.Logs[1] = x.Logs[0] }, api.ErrState},
		change{"another sum of the first one", func(x *api.Evidence) { x.Logs[0].Sum++ }, api.ErrState},
		change{"another sum of the second one", func(x *api.Evidence) { x.Logs[1].Sum++ }, api.ErrState},
	)
}

// P10.1: evidence of repairs.
func TestVerifyRepairs(t *testing.T) {
	contract := func(at int) api.Contract {
		return api.Contract{At: at, Names: []string{"x"}, Claims: []api.Invariant{{Kind: api.ClLow, K: 0}}}
	}
	verifyChanges(t, api.PrRepair,
		change{"another text", func(x *api.Evidence) { x.Other += " " }, api.ErrState},
		change{"no text", func(x *api.Evidence) { x.Other = "" }, api.ErrState},
		change{"the text of the program itself", func(x *api.Evidence) { x.Other = x.Program }, api.ErrState},
		change{"no patch", func(x *api.Evidence) { x.Patch = api.Patch{} }, api.ErrState},
		change{"a patch of another statement", func(x *api.Evidence) { x.Patch.Edits[0].At = 1 }, api.ErrState},
		change{"a patch that cannot be", func(x *api.Evidence) { x.Patch.Edits[0].At = 3 }, api.ErrState},
		setIs("one changed run less", api.ErrState, 1),
		setIs("one changed run more", api.ErrState, 1, 2, 3),
		change{"a test that it does not meet", func(x *api.Evidence) { x.Tests[0].Out[0] = 6 }, api.ErrState},
		change{"no tests", func(x *api.Evidence) { x.Tests = nil }, api.OK},
		change{"a contract that it keeps", func(x *api.Evidence) { x.Contracts = append(x.Contracts, contract(1)) }, api.OK},
		change{"a contract that is lost", func(x *api.Evidence) { x.Contracts = append(x.Contracts, contract(2)) }, api.ErrState},
		change{"a contract that is broken", func(x *api.Evidence) {
			x.Contracts = append(x.Contracts, contract(1))
			x.Contracts[0].Claims[0].K = 1
		}, api.ErrState},
		change{"a contract of no statement", func(x *api.Evidence) { x.Contracts = append(x.Contracts, contract(3)) }, api.ErrState},
		numbersAre("more fuel", api.OK, 65536, 2, 0, 1),
		numbersAre("too much fuel", api.ErrState, 65537, 2, 0, 1),
		numbersAre("too little fuel", api.ErrState, 9, 2, 0, 1),
		numbersAre("other inputs", api.ErrState, 99, 1, 0, 1),
		numbersAre("inputs that there are not", api.ErrState, 99, -1, 0, 1),
		numbersAre("another domain", api.ErrState, 99, 2, 0),
		numbersAre("no domain", api.ErrState, 99, 2),
		numbersAre("a domain that does not ascend", api.ErrState, 99, 2, 1, 0),
	)
	x := kindOf(t, api.PrRepair)
	x.Numbers, x.Set = []int64{99, 0}, nil // one run without inputs: it faults with both programs
	verified(t, "no domain, and no inputs", x, api.OK)
	x.Numbers = []int64{99, 2}
	verified(t, "no runs", x, api.OK)
}

// P10.1, P10.3: evidence of random sessions, and what it is with one number, string or list changed.
func TestVerifyChanged(t *testing.T) {
	r := rand.New(rand.NewSource(3))
	found := map[api.Proof]map[api.Errno]int{}
	sessions(t, 90, 60, func(_ int, _, _ []string, m *model) {
		for _, x := range m.evidence {
			if found[x.Kind] == nil {
				found[x.Kind] = map[api.Errno]int{}
			}
			if found[x.Kind][api.ErrState] > 60 && r.Intn(8) > 0 {
				continue
			}
			y := changed(r, x)
			want := wanted(y)
			verified(t, "changed", y, want)
			found[x.Kind][want]++
		}
	})
	for k := api.PrRun; k <= api.PrRepair; k++ {
		if found[k][api.ErrState] < 6 || found[k][api.ErrArg]+found[k][api.OK] == 0 {
			t.Error("too few cases of kind", k, found[k])
		}
	}
}

// changed returns an evidence with one number, string or list changed a little, mostly such as its kind has.
func changed(r *rand.Rand, x api.Evidence) api.Evidence {
	y := cloned(x)
	var all []reflect.Value
	v := reflect.ValueOf(&y).Elem()
	for i := range v.NumField() {
		name := v.Type().Field(i).Name
		if strings.Contains(named[x.Kind], name) && name != "Logs" || r.Intn(20) == 0 {
			spots(v.Field(i), func(at reflect.Value) { all = append(all, at) })
		}
	}
	at := all[r.Intn(len(all))]
	switch at.Kind() {
	case reflect.Slice:
		if n := at.Len(); n > 0 && r.Intn(2) == 0 {
			at.Set(at.Slice(0, n-1))
			break
		}
		shift(at)
	case reflect.Int, reflect.Int64:
		at.SetInt(at.Int() + int64(1-2*r.Intn(2)))
	default:
		shift(at)
	}
	return y
}

// P10.1, R4: Verify, Bytes and Same change nothing.
func TestArgumentsStay(t *testing.T) {
	for _, x := range every(t) {
		before := cloned(x)
		session.Verify(x)
		session.Bytes(x)
		session.Digest(x)
		session.Same(x, x)
		if !areSame(before, x) {
			t.Errorf("%+v has become %+v", before, x)
		}
	}
}
