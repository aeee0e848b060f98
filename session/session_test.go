package session_test

import (
	"fmt"
	"slices"
	"strings"
	"testing"

	"sleuth/api"
	"sleuth/lang"
	"sleuth/session"
)

// The chapter's own examples.
func TestExamples(t *testing.T) {
	s := session.New()
	a, e := s.Do("program p fun main() { print input + 1; }")
	d, _ := lang.Digest(parsed(t, "fun main() { print input + 1; }"))
	if e != api.OK || a != fmt.Sprintf("program p: 1 statements, digest %016x", d) {
		t.Error(a, e)
	}
	expect(t, s,
		[2]string{"run r p 99 4", "run r: end 1 fault 0 line 0 steps 6 out 5 [X]"},
		[2]string{"why r 0", "why r 0: value 5 steps 3 2 [X]"},
		[2]string{"test 4 ; 5", "test 1"},
		[2]string{"verify", "verified 2"},
		[2]string{"run r p 99 4", "error 6"},
	)
}

// P10.2: programs, tests, runs and what is asked about them.
func TestAnswers(t *testing.T) {
	s := began(t, "program w "+racing, "program p "+minus)
	expect(t, s,
		[2]string{"", ""},
		[2]string{"#", ""},
		[2]string{"# run r p 99", ""},
		[2]string{"#run  ", ""},
		[2]string{"verify", "verified 0"},
		[2]string{"run r p 99 2 3", "run r: end 1 fault 0 line 0 steps 10 out -1 [X]"},
		[2]string{"run short p 3 2 3", "run short: end 6 fault 0 line 0 steps 3 out [X]"},
		[2]string{"run none p 0", "run none: end 6 fault 0 line 0 steps 0 out [X]"},
		[2]string{"run lack p 65536 2", "run lack: end 3 fault 8 line 1 steps 3 out [X]"},
		[2]string{"run wide p 99 9223372036854775807 -1 7", "run wide: end 1 fault 0 line 0 steps 10 out -9223372036854775808 [X]"},
		[2]string{"follow f w 200 ; 0 12 1 5 2 200", "run f: end 4 fault 0 line 7 steps 43 out [X]"},
		[2]string{"follow g w 200 ;", "run g: end 1 fault 0 line 0 steps 49 out 2 [X]"},
		[2]string{"follow h p 99 5 3 ;", "run h: end 1 fault 0 line 0 steps 10 out 2 [X]"},
		[2]string{"follow i p 4 5 3 ; 7 2147483647 0 1", "run i: end 6 fault 0 line 0 steps 4 out [X]"},
		[2]string{"why r 0", "why r 0: value -1 steps 7 6 [X]"},
		[2]string{"slice r 0", "slice r 0: statements 0 1 2 steps 8 [X]"},
		[2]string{"race r", "race r: none"},
		[2]string{"race f", "race f: object 0 cell 0 steps 12 24 [X]"},
		[2]string{"shrink m f 200", "shrink m: picks 4 end 4 fault 0 line 7 steps 43 out [X]"},
		[2]string{"shrink n none 0", "shrink n: picks 0 end 6 fault 0 line 0 steps 0 out [X]"},
		[2]string{"verify", "verified 14"},
	)
	if l := s.Names(); !slices.Equal(l, strings.Fields("w p r short none lack wide f g h i m n")) {
		t.Error(l)
	}
	if l, found := s.Log("m"); !found || !slices.Equal(l.Picks, pairs([]int64{0, 10, 1, 5, 2, 12, 1, 7, 0, 9})) {
		t.Error(l)
	}
}

// P10.2: the program of a line is everything behind the second blank.
func TestProgramText(t *testing.T) {
	s := session.New()
	for i, text := range []string{
		minus, " " + minus, "  fun main()\t{}", "fun main() {\n  print 1;\n}\n", "fun main() { } # a remark", "#\nfun main() {}", "fun main() { print 1  ; } ",
	} {
		name := fmt.Sprint("p", i)
		p := parsed(t, text)
		d, _ := lang.Digest(p)
		expect(t, s, [2]string{"program " + name + " " + text, fmt.Sprintf("program %s: %d statements, digest %016x", name, lang.Count(p), d)})
		if q, found := s.Program(name); !found || !lang.Same(p, q) {
			t.Error(text, q)
		}
	}
	expect(t, s,
		[2]string{"program q", "error 4"},
		[2]string{"program q ", "error 4"},
		[2]string{"program  q fun main() {}", "error 4"},
		[2]string{"program q  ", "error 5"}, // a text of one blank: a program without main
		[2]string{"program q x", "error 4"},
		[2]string{"program q fun main() { print x; }", "error 5"},
		[2]string{"program q fun main() { let x = 1; let x = 2; }", "error 6"},
		[2]string{"program q fun main(x) { }", "error 1"},
		[2]string{"program q fun main() { " + strings.Repeat("0;", 513) + " }", "error 3"},
		[2]string{"program q " + deep(), "error 3"},
	)
	if e := lang.Check(parsed(t, deep())); e != api.OK {
		t.Error("Check:", e)
	}
	if len(s.Names()) != 7 {
		t.Error(s.Names())
	}
}

// deep returns a program whose written form is longer than MaxText, though its text is not.
func deep() string {
	text := ""
	for _, name := range strings.Fields("main a b c d e f g h") {
		text += "fun " + name + "(){" + strings.Repeat("if 0{", 22)
		for i := range 60 {
			text += fmt.Sprint("try{}catch a", 1000000000000000/10+i, "{}")
		}
		text += strings.Repeat("}", 23)
	}
	return text
}

// P10.2: what searches answer: rankings, diagnoses, contracts, causes and repairs, those included that find nothing.
func TestSearches(t *testing.T) {
	s := began(t, "program p "+minus, "program b "+bounded, "program n fun main() { let g = input; if g < 3 { g = g + 2; } print g; }", "program e fun main() { }")
	expect(t, s,
		[2]string{"rank p 3 99", "rank p: 0:1:3 1:1:3 2:1:3"},
		[2]string{"diagnose p 99 1 1 4 5", "diagnose p: {} [X]"},
		[2]string{"learn n 3 99", "learn n 3: nothing [X]"},
		[2]string{"test 2 3 ; 5", "test 1"},
		[2]string{"test 4 0 ; 4", "test 2"},
		[2]string{"rank n 2 99", "rank n: 2:1:1 0:2:4 1:2:4 3:2:4"},
		[2]string{"diagnose p 99 1 1 4 5", "diagnose p: {2} [X]"},
		[2]string{"diagnose p 99 6 2 0 3 4", "diagnose p: none"},
		[2]string{"diagnose p 99 6 2 -1 0 4", "diagnose p: {0,1} [X]"},
		[2]string{"diagnose p 99 6 3 -3 0 4 5", "diagnose p: {1} {2} [X]"},
		[2]string{"diagnose p 99 1 0 4 5", "diagnose p: none"},
		[2]string{"repair q p 99 2 0 1", "repair q: statement 2 changed 2 [X]"},
		[2]string{"repair z p 99 0", "repair z: statement 2 changed 0 [X]"},
		[2]string{"repair no b 99 1 0 1", "repair no: none"},
		[2]string{"learn p 2 99", "learn p 2: x == 4 & y == 0 [X]"},
		[2]string{"learn p 1 99", "learn p 1: x == 4 [X]"},
		[2]string{"learn p 0 99", "learn p 0: nothing [X]"},
		[2]string{"repair no p 99 2 0 1", "repair no: none"}, // the contract of statement 2 would be lost
		[2]string{"run c b 99 1", "run c: end 1 fault 0 line 0 steps 16 out 3 [X]"},
		[2]string{"run d b 99 4", "run d: end 4 fault 0 line 2 steps 12 out [X]"},
		[2]string{"cause c d 2 99", "cause c d 2: reg 0 0 [X]"},
		[2]string{"cause d c 9 99", "cause d c 9: reg 0 2 [X]"},
		[2]string{"cause c d 0 99", "cause c d 0: none"},
		[2]string{"cause c d 13 99", "cause c d 13: none"},
		[2]string{"cause c d 2147483647 99", "cause c d 2147483647: none"},
		[2]string{"rank e 3 99", "error 7"},
		[2]string{"diagnose e 99 1 1 0", "diagnose e: none"},
		[2]string{"repair y e 99 1 0", "error 7"},
		[2]string{"verify", "verified 14"},
	)
	if p, found := s.Program("q"); !found || !lang.Same(p, parsed(t, "fun main() { let x = input; let y = input; print x + y; }")) {
		t.Error(p)
	}
	if l := s.Names(); !slices.Equal(l, strings.Fields("p b n e q z c d")) {
		t.Error(l)
	}
}

// P10.2: places of a cause in several registers and cells, and claims with each form of text.
func TestLists(t *testing.T) {
	s := began(t,
		"program p fun main() { let o = new(2); let a = input; o[0] = a; o[1] = a; assert o[0] == a; assert o[1] == a; assert a < 5; print 1; }",
		"run c p 99 1", "run d p 99 10", "test 3 ; 1", "test 1 ; 1", "test 2 ; 1", "test 0 ; 1",
	)
	expect(t, s,
		[2]string{"cause c d 15 99", "cause c d 15: reg 0 1, cell 0 0, cell 0 1 [X]"},
		[2]string{"learn p 3 99", "learn p 3: a >= 0 & a <= 3 [X]"},
	)
	if x := last(t, s); len(x.Tests) != 4 || len(x.Contracts) != 1 {
		t.Error(x)
	}
}

// P10.2: a contract counts in the repairs of its program alone, and those of one program are at most MaxContracts.
func TestContracts(t *testing.T) {
	s := began(t, "program p "+minus, "program o "+minus, "test 4 0 ; 4", "test 2 3 ; 5", "learn o 2 99")
	expect(t, s, [2]string{"repair a p 99 2 0 1", "repair a: statement 2 changed 2 [X]"}, [2]string{"repair b o 99 2 0 1", "repair b: none"})
	if x := s.Evidence()[1]; x.Kind != api.PrRepair || len(x.Contracts) > 0 || len(x.Tests) != 2 {
		t.Error(x)
	}
	for range api.MaxContracts {
		expect(t, s, [2]string{"learn p 1 99", "learn p 1: x == 4 [X]"})
	}
	expect(t, s,
		[2]string{"learn p 1 99", "error 3"},
		[2]string{"learn p 3 99", "error 7"}, // what Learn returns is told first
		[2]string{"learn p 1 65537", "error 1"},
		[2]string{"learn o 1 99", "learn o 1: x == 4 [X]"},
		[2]string{"verify", "verified 19"},
	)
}

// P10.2: what a repair keeps goes into its evidence.
func TestRepairWithContracts(t *testing.T) {
	s := began(t, "program p "+minus, "test 4 0 ; 4", "learn p 1 99", "test 4 3 ; 7") // x == 4
	expect(t, s,
		[2]string{"repair q p 99 2 0 1", "repair q: none"}, // within the bound the contract is broken
		[2]string{"repair q p 99 2 4", "repair q: statement 2 changed 1 [X]"},
	)
	x := last(t, s)
	if len(x.Contracts) != 1 || x.Contracts[0].At != 1 || len(x.Tests) != 2 || !slices.Equal(x.Numbers, []int64{99, 2, 4}) || !slices.Equal(x.Set, []int{0}) {
		t.Error(x)
	}
}

// P10.2: shrink runs the minimized picks of any run, with the inputs of that run, and compares with what that run came to.
func TestShrink(t *testing.T) {
	s := began(t, "program w "+racing,
		"program p fun w(o, v) { o[0] = v; o[0] = o[0] + v; } fun main() { let o = new(1); let t = spawn w(o, input); let u = spawn w(o, input); join t; join u; print o[0]; }",
		"follow r p 200 3 5 ; 0 12 1 3 2 3 1 2 2 9 1 1 2 1")
	l, _ := s.Log("r")
	expect(t, s,
		[2]string{"shrink m r 200", "shrink m: picks 4 end 1 fault 0 line 0 steps 49 out 13 [X]"},
		[2]string{"shrink n m 200", "shrink n: picks 4 end 1 fault 0 line 0 steps 49 out 13 [X]"},
		[2]string{"shrink x r 48", "error 7"},
		[2]string{"shrink x r 0", "error 7"},
		[2]string{"shrink x r 65537", "error 1"},
		[2]string{"shrink x r 49", "shrink x: picks 4 end 1 fault 0 line 0 steps 49 out 13 [X]"},
		[2]string{"verify", "verified 4"},
	)
	if x := s.Evidence()[1]; x.Kind != api.PrSchedule || !sameLog(x.Logs[0], l) || !slices.Equal(x.Numbers, []int64{200}) {
		t.Error(x)
	}
	m, _ := s.Log("m")
	if !slices.Equal(m.Inputs, []int64{3, 5}) {
		t.Error(m)
	}
}

// manyPicks returns a session with a run r of so many picks, whose output tells each change of the order.
func manyPicks(t *testing.T, picks, each int) *session.Session {
	t.Helper()
	s := began(t, "program p fun w(o) { let i = 0; while i < 40 { o[0] = o[0] + 1; i = i + 1; } } fun main() { let o = new(1); let a = spawn w(o); let b = spawn w(o); let c = spawn w(o); let d = spawn w(o); join a; join b; join c; join d; print o[0]; }")
	line := "follow r p 10000 ; 0 40"
	for i := range picks {
		line += fmt.Sprint(" ", 1+i%4, " ", each)
	}
	answer(t, s, line)
	return s
}

// P10.2: a schedule with too many picks, and one of many picks that is minimized as a model does it.
func TestShrinkLimits(t *testing.T) {
	s := manyPicks(t, 300, 5)
	expect(t, s, [2]string{"shrink m r 10000", "error 3"}, [2]string{"shrink m r 65537", "error 1"})
	s = manyPicks(t, 240, 40)
	expect(t, s, [2]string{"shrink m r 2000", "error 7"}, [2]string{"verify", "verified 1"})
	m := newModel()
	p, _ := s.Program("p")
	m.name("p", p)
	l, _ := s.Log("r")
	m.keep("r", "p", l, repeated(p, l))
	want, _ := m.do("shrink m r 10000")
	if a, e := s.Do("shrink m r 10000"); e != api.OK || a != want {
		t.Errorf("%q, not %q", a, want)
	}
}

// P10.2: a schedule that is asked about MaxAsks times, and one that would be asked about once more.
func TestShrinkAsks(t *testing.T) {
	// What w does in one loop, 13 steps, may not change places with what another w does; v may change places with everything. So all 64 preemptions of the threads 1 and 2 are asked, in vain, before each of 63 of the threads 3 and 4 that is not needed; and at the end those of the threads 5 and 6.
	s := began(t, "program p fun w(o, n) { while 1 { o[0] = o[0] * 31 + n; } } fun v() { while 1 { } } fun main() { let o = new(1); spawn w(o, 1); spawn w(o, 2); spawn v(); spawn v(); spawn w(o, 3); spawn w(o, 4); print o[0]; }")
	start := "0 19" + strings.Repeat(" 1 13 2 13", 32) + strings.Repeat(" 3 3 4 3", 64)
	answer(t, s, "follow r p 5000 ; "+start+" 5 13 6 13 0 100")
	answer(t, s, "follow t p 5000 ; "+start+" 5 13 6 13 5 13 0 100")
	if a := answer(t, s, "shrink m r 5000"); !strings.HasPrefix(a, "shrink m: picks 70 end 1 fault 0 line 0 steps 1265 out ") {
		t.Error(a)
	}
	expect(t, s, [2]string{"shrink n t 5000", "error 9"}, [2]string{"verify", "verified 3"})
}

// P10.2: lines that are of no form.
func TestNoForm(t *testing.T) {
	s := began(t, "program p "+minus, "run r p 99 2 3", "run s p 99 3 2", "test 2 3 ; 5")
	before := s.Evidence()
	good := []string{
		"program q " + minus, "test 1 -2 ; 3", "run q p 99 1", "follow q p 99 1 ; 0 1", "why r 0", "slice r 0", "race r", "shrink q r 99", "rank p 3 99",
		"diagnose p 99 1 1 4 5", "learn p 1 99", "cause r s 3 99", "repair q p 99 2 0 1", "verify",
	}
	var bad []string
	for _, line := range good {
		words := strings.Split(line, " ")
		if words[0] != "program" {
			bad = append(bad, line+" ", line+" x", line+" ;", line+"  1", line+"\n", line+"\t", line+" 01", line+" -0", line+" +1", line+" 9223372036854775808", line+" -9223372036854775809")
		}
		bad = append(bad, " "+line, "\t"+line, strings.ToUpper(line), "x"+line, words[0]+"  "+strings.Join(words[1:], " "), words[0]+"s "+strings.Join(words[1:], " "))
	}
	for _, name := range []string{"P", "1", "if", "verify;", "a-b", "", "é", "abcdefghijklmnopq", "main()", ";"} {
		bad = append(bad,
			"program "+name+" "+minus, "run "+name+" p 99", "run q "+name+" 99", "follow "+name+" p 99 ;", "follow q "+name+" 99 ;", "why "+name+" 0", "slice "+name+" 0", "race "+name,
			"shrink "+name+" r 99", "shrink q "+name+" 99", "rank "+name+" 3 99", "diagnose "+name+" 99 1 1", "learn "+name+" 1 99", "cause "+name+" s 1 99", "cause r "+name+" 1 99",
			"repair "+name+" p 99 1", "repair q "+name+" 99 1")
	}
	for _, n := range []string{"", "-1", "01", "00", "-0", "+1", "1.0", "1e1", "0x1", "1_0", "x", ";", "2147483648", "9223372036854775807", "18446744073709551616", "٣"} {
		bad = append(bad,
			"run q p "+n, "run q p "+n+" 1", "follow q p "+n+" ;", "follow q p 99 ; 0 "+n, "follow q p 99 ; "+n+" 1", "why r "+n, "slice r "+n, "shrink q r "+n, "rank p "+n+" 99", "rank p 3 "+n,
			"diagnose p "+n+" 1 1", "diagnose p 99 "+n+" 1", "diagnose p 99 1 "+n, "learn p "+n+" 99", "learn p 1 "+n, "cause r s "+n+" 99", "cause r s 1 "+n, "repair q p "+n+" 2", "repair q p 99 "+n)
	}
	for _, n := range []string{"01", "-0", "+1", "--1", "1.0", "x", "9223372036854775808", "-9223372036854775809", "-01", "0x1"} {
		bad = append(bad, "test "+n+" ; 1", "test 1 ; "+n, "run q p 99 "+n, "follow q p 99 "+n+" ;", "diagnose p 99 1 1 "+n, "repair q p 99 1 "+n)
	}
	bad = append(bad, "x", ";", "test", "test 1", "test 1 2", "test ; ;", "test ;;", "test 1 ; 2 ; 3", "test 1;2", "test ;1", "test 1;", "run", "run q", "run q p", "follow q p 99", "follow q p 99 1", "follow q p 99 ; 0", "follow q p 99 ; 0 1 2", "follow q p 99 ; 0 1 ; 0 1",
		"why", "why r", "why r 0 0", "slice r", "race", "race r s", "shrink q r", "shrink q", "shrink q r 9 9", "rank p", "rank p 3", "rank p 3 99 1", "diagnose p 99 1", "diagnose p 99", "diagnose", "learn p 1", "learn p", "learn p 1 99 1", "cause r s 1", "cause r 1 99", "cause r s 1 99 1", "repair q p 99", "repair q p", "verify 1", "verify ", " verify", " ", " #", "\n", "Verify", "verify\n", "verify#")
	for _, line := range bad {
		if a, e := s.Do(line); e != api.ErrForm || a != "" {
			t.Errorf("Do(%q): %q, error %d", line, a, e)
		}
	}
	for _, line := range good {
		if _, e := s.Do(line); e == api.ErrForm {
			t.Errorf("Do(%q): error %d", line, e)
		}
	}
	if len(bad) < 500 || len(before) != 2 {
		t.Error(len(bad), len(before))
	}
}

// P10.2: names that there are already, names that there are not, and those of something else.
func TestNames(t *testing.T) {
	s := began(t, "program p "+minus, "run r p 99 2 3", "run s p 99 3 2", "test 2 3 ; 5")
	for _, name := range []string{"p", "r"} {
		for _, line := range []string{"program N " + minus, "run N p 99", "follow N p 99 ;", "shrink N r 99", "repair N p 99 2"} {
			expect(t, s, [2]string{strings.Replace(line, "N", name, 1), "error 6"})
		}
	}
	for _, line := range []string{"run q P 99", "follow q P 99 ;", "rank P 3 99", "diagnose P 99 1 1 0", "learn P 1 99", "repair q P 99 2", "why R 0", "slice R 0", "race R", "shrink q R 99", "cause R s 1 99", "cause r R 1 99"} {
		for _, name := range []string{"none", "q"} {
			expect(t, s, [2]string{strings.NewReplacer("P", name, "R", name).Replace(line), "error 7"})
		}
		expect(t, s, [2]string{strings.NewReplacer("P", "r", "R", "p").Replace(line), "error 7"})
	}
	if l := s.Names(); !slices.Equal(l, []string{"p", "r", "s"}) || len(s.Evidence()) != 2 {
		t.Error(l, s.Evidence())
	}
}

// P10.2: the errors of what a line does.
func TestErrors(t *testing.T) {
	s := began(t, "program p "+minus, "program c fun main() { print clock; }", "program o "+minus, "run r p 99 2 3", "run s p 99 3 2", "run same p 99 2 3", "run other o 99 3 2", "test 2 3 ; 5")
	expect(t, s,
		[2]string{"run q p 65537", "error 1"},
		[2]string{"run q p 2147483647", "error 1"},
		[2]string{"run q p 99" + strings.Repeat(" 1", 1025), "error 3"},
		[2]string{"run q p 65537" + strings.Repeat(" 1", 1025), "error 1"},
		[2]string{"follow q p 65537 ;", "error 1"},
		[2]string{"follow q p 99 ; 8 1", "error 1"},
		[2]string{"follow q p 99" + strings.Repeat(" 1", 1025) + " ;", "error 3"},
		[2]string{"why r 1", "error 7"},
		[2]string{"why r 2147483647", "error 7"},
		[2]string{"slice r 1", "error 7"},
		[2]string{"rank p 0 99", "error 1"},
		[2]string{"rank p 15 99", "error 1"},
		[2]string{"rank p 258 99", "error 1"},
		[2]string{"rank p 65538 99", "error 1"},
		[2]string{"rank p 2147483647 99", "error 1"},
		[2]string{"rank p 3 65537", "error 1"},
		[2]string{"diagnose c 99 1 1 0", "error 11"},
		[2]string{"diagnose p 99 1 1", "error 1"},
		[2]string{"diagnose p 99 1 1 2 1", "error 1"},
		[2]string{"diagnose p 99 1 1 1 2 3 4 5", "error 3"},
		[2]string{"diagnose p 99 7 1 1", "error 3"},
		[2]string{"diagnose p 65537 1 1 1", "error 1"},
		[2]string{"diagnose p 99 1 4 1", "error 3"},
		[2]string{"learn p 3 99", "error 7"},
		[2]string{"learn p 1 65537", "error 1"},
		[2]string{"cause r other 1 99", "error 1"},
		[2]string{"cause r s 1 65537", "error 1"},
		[2]string{"cause r same 1 99", "error 12"},
		[2]string{"cause r r 1 99", "error 12"},
		[2]string{"repair q p 65537 1", "error 1"},
		[2]string{"repair q p 99 1 1 0", "error 1"},
		[2]string{"repair q p 99 1 0 1 2 3 4", "error 3"},
		[2]string{"repair q p 99 1025 0", "error 3"},
		[2]string{"repair q p 99 9 0 1", "error 3"},
		[2]string{"verify", "verified 4"},
	)
	if len(s.Names()) != 7 {
		t.Error(s.Names())
	}
	for range 17 { // inputs that no run may have
		answer(t, s, "test"+strings.Repeat(" 1", 1025)+" ;")
	}
	expect(t, s,
		[2]string{"rank p 3 99", "error 3"},
		[2]string{"rank p 0 99", "error 3"}, // ahead of Rank's
		[2]string{"diagnose p 99 1 1 0", "error 3"},
		[2]string{"learn p 1 99", "error 3"},
		[2]string{"learn p 3 99", "error 3"},        // ahead of Learn's
		[2]string{"repair q p 99 1 1 0", "error 3"}, // ahead of Repair's
	)
}

// P10.2: which error is told first.
func TestOrder(t *testing.T) {
	var none *session.Session
	if _, e := none.Do(strings.Repeat(" ", api.MaxText+1)); e != api.ErrNil {
		t.Error("a long line for nothing:", e)
	}
	s := began(t, "program p "+minus, "run r p 99 2 3")
	expect(t, s,
		[2]string{" " + strings.Repeat("x", api.MaxText), "error 3"},     // ErrLimit ahead of ErrForm
		[2]string{"#" + strings.Repeat("x", api.MaxText), "error 3"},     // also of a remark
		[2]string{"#" + strings.Repeat("x", api.MaxText-1), ""},          // of the greatest length
		[2]string{"run p none 99 x", "error 4"},                          // ErrForm ahead of ErrTwice
		[2]string{"run p none 99", "error 6"},                            // ErrTwice ahead of ErrNone
		[2]string{"shrink r r 65537", "error 6"},                         // ErrTwice ahead of what shrink says
		[2]string{"program p x", "error 6"},                              // and of what Parse says
		[2]string{"program p ", "error 4"},                               // an empty text is ErrForm
		[2]string{"cause none r 1 65537", "error 7"},                     // ErrNone ahead of Isolate's
		[2]string{"run q none 65537", "error 7"},                         // and of Record's
		[2]string{"program q fun main() { print x; ", "error 4"},         // Parse's ahead of Check's
		[2]string{"program q fun main() { print x; print 01", "error 4"}, // of both of Parse's the first one
	)
	for i := range api.MaxNamed - 2 {
		answer(t, s, fmt.Sprint("run q", i, " p 99 1 1"))
	}
	expect(t, s,
		[2]string{"program q fun main() { }", "error 3"},
		[2]string{"program q x", "error 3"}, // ErrLimit ahead of Parse's
		[2]string{"run q p 99", "error 3"},
		[2]string{"run q p 65537", "error 3"},
		[2]string{"follow q p 99 ;", "error 3"},
		[2]string{"shrink q r 99", "error 3"},
		[2]string{"repair q p 99 0", "error 3"},
		[2]string{"run q none 99", "error 7"}, // ErrNone ahead of ErrLimit
		[2]string{"run r p 99", "error 6"},
		[2]string{"why r 0", "why r 0: value -1 steps 7 6 [X]"},
		[2]string{"verify", "verified 32"},
	)
	if len(s.Names()) != api.MaxNamed {
		t.Error(s.Names())
	}
}

// P10.2: at most MaxTests tests, with any lists.
func TestTests(t *testing.T) {
	s := began(t, "program p "+minus)
	lines := []string{"test ;", "test 1 ;", "test ; 1", "test -9223372036854775808 9223372036854775807 ; 0 0", "test" + strings.Repeat(" 0", 2000) + " ;"}
	for i := range api.MaxTests {
		expect(t, s, [2]string{lines[i%len(lines)], fmt.Sprint("test ", i+1)})
	}
	expect(t, s, [2]string{"test ;", "error 3"}, [2]string{"test ; x", "error 4"}, [2]string{"verify", "verified 0"})
}

// P10.2: Run cuts a text into lines.
func TestLines(t *testing.T) {
	for _, x := range []struct {
		text string
		want []string
	}{
		{"", nil},
		{"\n", []string{""}},
		{"\n\n", []string{"", ""}},
		{"verify", []string{"verified 0"}},
		{"verify\n", []string{"verified 0"}},
		{"\nverify", []string{"", "verified 0"}},
		{"verify\r\nverify", []string{"error 4", "verified 0"}},
		{"# a\nx\n#", []string{"", "error 4", ""}},
		{"test ;\ntest ;", []string{"test 1", "test 2"}},
		{strings.Repeat("\n", api.MaxLines), make([]string, api.MaxLines)},
		{strings.Repeat("\n", api.MaxLines-1) + "#", make([]string, api.MaxLines)},
		{"#" + strings.Repeat("x", api.MaxText-1), []string{""}},
	} {
		l, v, e := session.Run(x.text)
		if e != api.OK || !slices.Equal(l, x.want) || len(v) > 0 {
			t.Errorf("Run(%.40q): %q, %v, error %d", x.text, l, v, e)
		}
	}
	for _, text := range []string{strings.Repeat("\n", api.MaxLines+1), strings.Repeat("\n", api.MaxLines) + "#", strings.Repeat("#", api.MaxText+1), strings.Repeat("\n", api.MaxText+1)} {
		if l, v, e := session.Run(text); e != api.ErrLimit || len(l) > 0 || len(v) > 0 {
			t.Errorf("Run(%.10q ..): %q, %v, error %d", text, l, v, e)
		}
	}
	l, v, e := session.Run("program p " + minus + "\nrun r p 99 2 3\nrun r p 99\nrun s p 3 1")
	if e != api.OK || len(l) != 4 || l[2] != "error 6" || len(v) != 2 || !strings.HasSuffix(l[1], fmt.Sprintf("[%016x]", session.Digest(v[0]))) {
		t.Error(l, v, e)
	}
}

// P10.2: the evidence of each kind has just what the chapter says.
func TestEvidence(t *testing.T) {
	for i, x := range every(t) {
		if x.Kind != api.Proof(i+1) || formed(x) != api.OK || wanted(x) != api.OK {
			t.Errorf("%+v", x)
		}
	}
	s := began(t, "program p   fun main() {print 1;}", "run r p 9")
	if x := last(t, s); x.Program != "fun main() {\n  print 1;\n}\n" {
		t.Errorf("%q", x.Program)
	}
}
