package reduce_test

import (
	"fmt"
	"math/rand"
	"slices"
	"strings"
	"testing"

	"sleuth/api"
	"sleuth/reduce"
)

// picks reads a schedule: a thread and a count for each pick.
func picks(text string) []api.Pick {
	var l []api.Pick
	for _, s := range strings.Split(text, ",") {
		if n := numbers(s); len(n) == 2 {
			l = append(l, api.Pick{Thread: n[0], Count: n[1]})
		}
	}
	return l
}

// P6.3: the normal form of a schedule, and which error is told first.
func TestNormal(t *testing.T) {
	for _, c := range []struct{ l, want string }{
		{"", ""},
		{"0 2, 0 1, 1 3", "0 3, 1 3"},
		{"7 1", "7 1"},
		{"0 1, 1 1, 0 1", "0 1, 1 1, 0 1"},
		{"0 1, 1 2, 1 3, 1 4, 0 5, 0 6", "0 1, 1 9, 0 11"},
		{"3 65536", "3 65536"}, {"3 65535, 3 1", "3 65536"}, {"3 65535, 2 1", "3 65535, 2 1"},
	} {
		if got, e := reduce.Normal(picks(c.l)); e != api.OK || !slices.Equal(got, picks(c.want)) {
			t.Errorf("Normal(%s): error %d, %v, want %s", c.l, e, got, c.want)
		}
	}
	for l, want := range map[string]api.Errno{
		"8 1": api.ErrArg, "-1 1": api.ErrArg, "0 0": api.ErrArg, "0 -1": api.ErrArg, "9223372036854775807 1": api.ErrArg, "0 -9223372036854775808": api.ErrArg,
		"0 65537": api.ErrLimit, "0 9223372036854775807": api.ErrLimit, "0 65536, 0 1": api.ErrLimit, "0 1, 1 9223372036854775807": api.ErrLimit,
		"0 65536, 0 0": api.ErrArg, "8 65537": api.ErrArg, // of one pick, ErrArg first
		"0 65537, 8 1": api.ErrLimit, "0 65536, 0 1, 0 0": api.ErrLimit, "0 1, 8 1, 0 65536": api.ErrArg, // pick by pick
	} {
		if got, e := reduce.Normal(picks(l)); e != want || len(got) > 0 {
			t.Errorf("Normal(%s): error %d, %v, want %d", l, e, got, want)
		}
		if got, e := reduce.Preemptions(picks(l)); e != want || len(got) > 0 {
			t.Errorf("Preemptions(%s): error %d, %v, want %d", l, e, got, want)
		}
		for _, at := range []int{-1, 0, 9} {
			if got, e := reduce.Join(picks(l), at); e != want || len(got) > 0 {
				t.Errorf("Join(%s, %d): error %d, %v, want %d", l, at, e, got, want)
			}
		}
		for _, answers := range [][]api.Verdict{nil, answersOf(api.VePass, api.MaxAsks+1)} {
			if q, e := reduce.Schedule(picks(l), answers); e != want || q.Done || len(q.Picks) > 0 {
				t.Errorf("Schedule(%s): error %d, %v, want %d", l, e, q, want)
			}
		}
	}
}

// P6.3: preemptions, and the schedules without one of them.
func TestJoin(t *testing.T) {
	for _, c := range []struct {
		l, preemptions string
		joined         []string
	}{
		{"", "", nil},
		{"0 1, 0 2", "", nil},
		{"0 1, 1 2, 2 3", "", nil},
		{"0 1, 1 2, 0 4", "0", []string{"0 5, 1 2"}},
		{"0 1, 0 1, 1 2, 0 4", "0", []string{"0 6, 1 2"}},
		{"0 1, 1 2, 0 4, 1 8", "0 1", []string{"0 5, 1 10", "0 1, 1 10, 0 4"}},
		{"0 1, 1 2, 0 4, 2 8, 0 16", "0 2", []string{"0 5, 1 2, 2 8, 0 16", "0 1, 1 2, 0 20, 2 8"}},
		{"0 1, 1 2, 2 4, 1 8, 0 16", "0 1", []string{"0 17, 1 2, 2 4, 1 8", "0 1, 1 10, 2 4, 0 16"}},
		{"3 1, 1 2, 2 4, 3 8, 1 16, 2 32", "0 1 2", []string{"3 9, 1 2, 2 4, 1 16, 2 32", "3 1, 1 18, 2 4, 3 8, 2 32", "3 1, 1 2, 2 36, 3 8, 1 16"}},
	} {
		l := picks(c.l)
		at, e := reduce.Preemptions(l)
		if e != api.OK || !slices.Equal(at, numbers(c.preemptions)) {
			t.Errorf("Preemptions(%s): error %d, %v, want %s", c.l, e, at, c.preemptions)
		}
		for i, at := range numbers(c.preemptions) {
			if got, e := reduce.Join(l, at); e != api.OK || !slices.Equal(got, picks(c.joined[i])) {
				t.Errorf("Join(%s, %d): error %d, %v, want %s", c.l, at, e, got, c.joined[i])
			}
		}
		for _, at := range append(less(until(len(l)+2), numbers(c.preemptions)), -1, 1<<62, -1<<63) {
			if got, e := reduce.Join(l, at); e != api.ErrNone || len(got) > 0 {
				t.Errorf("Join(%s, %d): error %d, %v", c.l, at, e, got)
			}
		}
	}
}

// steps is a schedule as the threads of its steps.
func steps(l []api.Pick) []int {
	var s []int
	for _, p := range l {
		s = append(s, slices.Repeat([]int{p.Thread}, p.Count)...)
	}
	return s
}

// fromSteps is the schedule of which no two neighbours are of one thread.
func fromSteps(s []int) []api.Pick {
	var l []api.Pick
	for i, thread := range s {
		if i == 0 || s[i-1] != thread {
			l = append(l, api.Pick{Thread: thread})
		}
		l[len(l)-1].Count++
	}
	return l
}

// P6.3: normal forms, preemptions and joins of random schedules, step by step.
func TestScheduleSteps(t *testing.T) {
	r := rand.New(rand.NewSource(15))
	for range 2000 {
		l := randomPicks(r, r.Intn(12))
		normal, e := reduce.Normal(l)
		if e != api.OK || !slices.Equal(normal, fromSteps(steps(l))) {
			t.Fatalf("Normal(%v): error %d, %v", l, e, normal)
		}
		var preemptions []int
		for at, p := range normal {
			next := slices.IndexFunc(normal[at+1:], func(q api.Pick) bool { return p.Thread == q.Thread })
			if next < 0 {
				continue
			}
			preemptions = append(preemptions, at)
			s := steps(normal[:at+1])
			s = append(s, steps(normal[at+1+next:at+2+next])...)
			s = append(s, steps(normal[at+1:at+1+next])...)
			s = append(s, steps(normal[at+2+next:])...)
			if got, e := reduce.Join(l, at); e != api.OK || !slices.Equal(got, fromSteps(s)) {
				t.Fatalf("Join(%v, %d): error %d, %v, want %v", l, at, e, got, fromSteps(s))
			}
		}
		if got, e := reduce.Preemptions(l); e != api.OK || !slices.Equal(got, preemptions) {
			t.Fatalf("Preemptions(%v): error %d, %v, want %v", l, e, got, preemptions)
		}
	}
}

// toldPicks writes how far Schedule has come: the threads of the steps.
func toldPicks(l []api.Pick, answers []api.Verdict) string {
	q, e := reduce.Schedule(l, answers)
	switch {
	case e != api.OK:
		return fmt.Sprint("!", int(e))
	case q.Done:
		return "=" + digits(steps(q.Picks))
	}
	return "?" + digits(steps(q.Picks))
}

// P6.3: Schedule goes on as its section says, question by question.
func TestScheduleWays(t *testing.T) {
	for _, c := range []struct{ l, way string }{
		{"", "f ="}, {"", "p !7"}, {"", "u !7"},
		{"0 2, 0 1", "000f =000"}, {"0 2, 0 1", "000p !7"},
		{"0 1, 1 1", "01f =01"},
		{"0 1, 1 1, 0 1", "010f 001p =010"}, {"0 1, 1 1, 0 1", "010f 001u =010"}, {"0 1, 1 1, 0 1", "010f 001f =001"},
		{"0 1, 1 1, 0 1, 1 1", "0101f 0011p 0110p =0101"},
		{"0 1, 1 1, 0 1, 1 1", "0101f 0011f =0011"},
		{"0 1, 1 1, 0 1, 1 1", "0101f 0011p 0110f =0110"}, // 0011 was asked
		{"0 1, 1 1, 2 1, 0 1, 1 1", "01201f 00121p 01120f 00112p =01120"},
		{"0 1, 1 1, 2 1, 0 1, 1 1", "01201f 00121f 00112f =00112"},
	} {
		walk(t, fmt.Sprintf("Schedule(%s)", c.l), func(answers []api.Verdict) string { return toldPicks(picks(c.l), answers) }, c.way)
	}
}

// P6.3, P6.11: schedules with large counts that differ in these alone are not the same candidate.
func TestLargeCounts(t *testing.T) {
	for _, unit := range []int{1, 10, 16, 100, 256, 1000, 4096, 10000} {
		l := picks(fmt.Sprintf("0 1, 1 1, 0 %d, 1 %d, 0 %d", unit, unit, 2*unit))
		want := []string{fmt.Sprintf("0 %d, 1 %d, 0 %d", unit+1, unit+1, 2*unit), fmt.Sprintf("0 1, 1 %d, 0 %d", unit+1, 3*unit), fmt.Sprintf("0 1, 1 1, 0 %d, 1 %d", 3*unit, unit)}
		for i, w := range want {
			answers := append(answersIn("f"), answersOf(api.VePass, i)...)
			if q, e := reduce.Schedule(l, answers); e != api.OK || q.Done || !slices.Equal(q.Picks, picks(w)) {
				t.Errorf("Schedule(%v) with %d answers: error %d, %v, want %s", l, len(answers), e, q, w)
			}
		}
	}
}

// P6.3: schedules with as many picks as are allowed, and more.
func TestManyPicks(t *testing.T) {
	var l []api.Pick
	for i := range api.MaxItems {
		l = append(l, api.Pick{Thread: i % 2, Count: 1}, api.Pick{Thread: i % 2, Count: 255})
	}
	q, e := reduce.Schedule(l, nil)
	if normal, _ := reduce.Normal(l); e != api.OK || q.Done || len(q.Picks) != api.MaxItems || !slices.Equal(q.Picks, normal) {
		t.Errorf("%d picks: error %d, %d picks", api.MaxItems, e, len(q.Picks))
	}
	l[0].Count, l[1].Thread = 1, 1
	l = append([]api.Pick{{Thread: 3, Count: 1}}, l[1:]...)
	if normal, _ := reduce.Normal(l); len(normal) != api.MaxItems {
		t.Errorf("%d picks", len(normal))
	}
	l = append([]api.Pick{{Thread: 4, Count: 1}}, l...)
	l[1].Count, l[2].Count = 1, 254
	for _, answers := range [][]api.Verdict{nil, answersIn("p"), answersOf(api.VePass, api.MaxAsks+1)} {
		if q, e := reduce.Schedule(l, answers); e != api.ErrLimit || len(q.Picks) > 0 {
			t.Errorf("%d picks: error %d, %d picks", api.MaxItems+1, e, len(q.Picks))
		}
	}
	if e := func() api.Errno { _, e := reduce.Join(l, 1<<40); return e }(); e != api.ErrNone {
		t.Errorf("Join of many picks: error %d", e)
	}
}

// P6.9: the result of Schedule has as many steps of each thread in no more picks, and no single join of it fails.
func TestScheduleMinimal(t *testing.T) {
	r := rand.New(rand.NewSource(16))
	for range 1500 {
		l := randomPicks(r, r.Intn(14))
		normal, _ := reduce.Normal(l)
		v := randomVerdicts(r)
		v.known[fmt.Sprint(normal)] = api.VeFail
		got := runPicks(t, l, func(c []api.Pick) api.Verdict { return v.of(fmt.Sprint(c)) })
		end := got.end.Picks
		a, b := steps(l), steps(end)
		slices.Sort(a)
		slices.Sort(b)
		if answer, asked := got.verdictOn(end); !got.end.Done || !asked || answer != api.VeFail || len(end) > len(normal) || !slices.Equal(a, b) {
			t.Fatalf("Schedule(%v): error %d, %v", l, got.e, got.end)
		}
		preemptions, _ := reduce.Preemptions(end)
		for _, at := range preemptions {
			j, _ := reduce.Join(end, at)
			if answer, asked := got.verdictOn(j); !asked || answer == api.VeFail {
				t.Fatalf("Schedule(%v) ends with %v: %v, %d of %v", l, end, asked, answer, j)
			}
		}
	}
}
