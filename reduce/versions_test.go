package reduce_test

import (
	"fmt"
	"math/rand"
	"slices"
	"testing"

	"sleuth/api"
	"sleuth/reduce"
)

// P6.4: Bisect goes on as its section says, question by question.
func TestBisectWays(t *testing.T) {
	for _, c := range []struct {
		n, times int
		way      string
	}{
		{2, 1, "0p 1f =01"}, {2, 1, "0f !7"}, {2, 1, "0u !7"}, {2, 1, "0p 1p !7"}, {2, 1, "0p 1u !7"},
		{3, 1, "0p 2f 1p =12"}, {3, 1, "0p 2f 1f =01"}, {3, 1, "0p 2f 1u =02"},
		{4, 1, "0p 3f 1p 2p =23"}, {4, 1, "0p 3f 1f =01"}, {4, 1, "0p 3f 1u 2f =02"},
		{5, 1, "0p 4f 2u 3f 1p =13"}, {5, 1, "0p 4f 2p 3f =23"}, {5, 1, "0p 4f 2u 3u 1u =04"},
		{6, 1, "0p 5f 2u 3p 4f =34"}, {6, 1, "0p 5f 2u 3f 1f =01"},
		{10, 1, "0p 9f 4u 5u 3u 6u 2u 7u 1u 8u =09"},
		{10, 1, "0p 9f 4u 5p 7u 8f 6u =58"},
		{3, 2, "0u 0p 2p 2f 1u 1u =02"}, {3, 2, "0p 0u 2f 1p 1f =01"}, {3, 2, "0p 0f !7"}, {3, 2, "0f !7"}, {3, 2, "0u 0u !7"},
		{3, 2, "0p 0p 2p 2u !7"}, {3, 2, "0p 0p 2f 1u 1p =12"}, {3, 2, "0p 0p 2f 1f =01"},
		{3, 3, "0p 0p 0p 2u 2u 2f 1u 1p 1u =12"},
		{2, -1, "0p 1f =01"}, {2, 0, "0u !7"}, {2, -1 << 63, "0p 1p !7"},
		{2, 9, "0u 0u 0u 0u 0u 0u 0u 0u 0p 1p 1p 1p 1p 1p 1p 1p 1p 1f =01"},
		{2, 10, "0u 0u 0u 0u 0u 0u 0u 0u 0p 1f =01"}, {2, 1 << 62, "0u 0u 0u 0u 0u 0u 0u 0u 0u !7"},
	} {
		walk(t, fmt.Sprintf("Bisect(%d, %d)", c.n, c.times), bisect(c.n, c.times).told, c.way)
	}
	for _, answers := range [][]api.Verdict{nil, answersIn("u"), answersOf(api.VePass, api.MaxAsks+1)} {
		for n, want := range map[int]api.Errno{1: api.ErrArg, 0: api.ErrArg, -1: api.ErrArg, -1 << 63: api.ErrArg, api.MaxItems + 1: api.ErrLimit, 1 << 62: api.ErrLimit} {
			if q, e := reduce.Bisect(n, 1, answers); e != want || !isZero(q) {
				t.Errorf("Bisect(%d): error %d, %v, want %d", n, e, q, want)
			}
		}
	}
}

// P6.4, P6.10: as many versions as are allowed, each of them asked as often as is allowed.
func TestManyVersions(t *testing.T) {
	n := api.MaxItems
	answers := append(answersOf(api.VePass, api.MaxTimes), api.VeFail)
	answers = append(answers, answersOf(api.VeUnknown, (n-2)*api.MaxTimes)...)
	if q, e := reduce.Bisect(n, api.MaxTimes, answers); e != api.OK || !q.Done || !slices.Equal(q.Kept, []int{0, n - 1}) {
		t.Errorf("Bisect: error %d, %v", e, q)
	}
	if q, e := reduce.Bisect(n, api.MaxTimes, answers[:len(answers)-1]); e != api.OK || q.Done || !slices.Equal(q.Ask, []int{n - 2}) {
		t.Errorf("Bisect: error %d, %v", e, q)
	}
	for _, dense := range []bool{false, true} {
		h := api.History{Parents: make([][]int, n)}
		for v := 1; v < n; v++ {
			h.Parents[v] = []int{v - 1}
			if dense {
				h.Parents[v] = until(v)
			}
		}
		if l, e := reduce.Ancestors(h, n-1); e != api.OK || !slices.Equal(l, until(n)) {
			t.Errorf("Ancestors: error %d, %v", e, l)
		}
		if v, e := reduce.Choose(h, until(n), nil); e != api.OK || v != n/2-1 {
			t.Errorf("Choose: error %d, %d", e, v)
		}
		q, e := reduce.Culprits(h, nil, n-1, api.MaxTimes, answersOf(api.VeUnknown, (n-1)*api.MaxTimes))
		if e != api.OK || !q.Done || !slices.Equal(q.Kept, until(n)) {
			t.Errorf("Culprits: error %d, %v", e, q)
		}
		r := runSets(t, culprits(h, []int{0}, n-1, 1), func(s []int) api.Verdict { return verdict(s[0] >= 200) })
		if r.e != api.OK || !slices.Equal(r.end.Kept, []int{200}) || len(r.asked) > 8 {
			t.Errorf("Culprits: error %d, %v behind %v", r.e, r.end, r.asked)
		}
	}
}

// history returns the history with these parents.
func history(parents ...[]int) api.History { return api.History{Parents: parents} }

// P6.4: the first error of a history.
func TestCheckHistory(t *testing.T) {
	for i, c := range []struct {
		h    api.History
		want api.Errno
	}{
		{history(), api.OK},
		{history(nil), api.OK},
		{history(nil, nil, []int{0, 1}), api.OK},
		{history([]int{0}), api.ErrArg},
		{history(nil, []int{1}), api.ErrArg},
		{history(nil, []int{2}, nil), api.ErrArg},
		{history(nil, []int{-1}), api.ErrArg},
		{history(nil, []int{-1, 0}), api.ErrArg},
		{history(nil, []int{0, 0}), api.ErrArg},
		{history(nil, nil, []int{1, 0}), api.ErrArg},
		{history(nil, nil, []int{0, 1, 1 << 62}), api.ErrArg},
		{api.History{Parents: make([][]int, api.MaxItems)}, api.OK},
		{api.History{Parents: make([][]int, api.MaxItems+1)}, api.ErrLimit},
		{api.History{Parents: slices.Repeat([][]int{{9, 9}}, api.MaxItems+1)}, api.ErrLimit},
	} {
		if e := reduce.CheckHistory(c.h); e != c.want {
			t.Errorf("CheckHistory, case %d: error %d, want %d", i, e, c.want)
		}
		if c.want == api.OK {
			continue
		}
		// The other functions return it first.
		if l, e := reduce.Ancestors(c.h, -1); e != c.want || len(l) > 0 {
			t.Errorf("Ancestors, case %d: error %d, %v, want %d", i, e, l, c.want)
		}
		if v, e := reduce.Choose(c.h, []int{-1}, nil); e != c.want || v != 0 {
			t.Errorf("Choose, case %d: error %d, %v, want %d", i, e, v, c.want)
		}
		if q, e := reduce.Culprits(c.h, []int{-1}, -1, 1, answersOf(api.VePass, api.MaxAsks+1)); e != c.want || !isZero(q) {
			t.Errorf("Culprits, case %d: error %d, %v, want %d", i, e, q, c.want)
		}
	}
}

// branches is 0 - 1 - 2 - 4 - 5, 1 - 3 - 4, and 6 apart.
func branches() api.History {
	return history(nil, []int{0}, []int{1}, []int{1}, []int{2, 3}, []int{4}, nil)
}

// P6.4: ancestors, and which candidate divides the others best.
func TestChoose(t *testing.T) {
	h := branches()
	for v, want := range []string{"0", "0 1", "0 1 2", "0 1 3", "0 1 2 3 4", "0 1 2 3 4 5", "6"} {
		if l, e := reduce.Ancestors(h, v); e != api.OK || !slices.Equal(l, numbers(want)) {
			t.Errorf("Ancestors(%d): error %d, %v, want %s", v, e, l, want)
		}
	}
	for _, v := range []int{-1, 7, 1 << 62, -1 << 63} {
		if l, e := reduce.Ancestors(h, v); e != api.ErrArg || len(l) > 0 {
			t.Errorf("Ancestors(%d): error %d, %v", v, e, l)
		}
	}
	for _, c := range []struct {
		cand, skip string
		want       int
		e          api.Errno
	}{
		{"0 1 2 3 4 5", "5", 2, api.OK}, // 2 and 3 have half of them, 2 is lower
		{"0 1 2 3 4 5", "2 5", 3, api.OK},
		{"0 1 2 3 4 5", "2 3", 1, api.OK}, // 1 and 4 have two, or all but two: 4 has 5 of 6
		{"1 2 3 4", "4", 2, api.OK},
		{"5", "", 5, api.OK}, // nothing is divided
		{"4 5", "4", 5, api.OK},
		{"4 5", "", 4, api.OK},
		{"0 6", "", 0, api.OK},
		{"0 5 6", "0", 5, api.OK},       // ancestors that are no candidates do not count
		{"1 2", "0 3 4 5 6", 1, api.OK}, // what is skipped need not be a candidate
		{"", "", 0, api.ErrNone}, {"", "3", 0, api.ErrNone}, {"2 3", "2 3", 0, api.ErrNone}, {"2 3", "0 1 2 3 4 5 6", 0, api.ErrNone},
		{"7", "", 0, api.ErrArg}, {"-1", "", 0, api.ErrArg}, {"1 1", "", 0, api.ErrArg}, {"2 1", "", 0, api.ErrArg},
		{"1", "7", 0, api.ErrArg}, {"1", "-1", 0, api.ErrArg}, {"1", "1 1", 0, api.ErrArg}, {"1", "2 1", 0, api.ErrArg}, {"", "8", 0, api.ErrArg},
	} {
		if v, e := reduce.Choose(h, numbers(c.cand), numbers(c.skip)); e != c.e || v != c.want {
			t.Errorf("Choose(%s; %s): error %d, %d, want %d, %d", c.cand, c.skip, e, v, c.e, c.want)
		}
	}
}

// P6.4: Ancestors and Choose do what their sections say.
func TestHistoryModels(t *testing.T) {
	r := rand.New(rand.NewSource(17))
	for range 2000 {
		h, _, v := randomHistory(r)
		all := until(len(h.Parents))
		if l, e := reduce.Ancestors(h, v); e != api.OK || !slices.Equal(l, modelAncestors(h, v)) {
			t.Fatalf("Ancestors(%v, %d): error %d, %v", h, v, e, l)
		}
		cand, skip := some(r, all, 1+r.Intn(3)), some(r, all, 1+r.Intn(5))
		want, found := modelChoose(h, cand, skip)
		if got, e := reduce.Choose(h, cand, skip); got != want || found != (e == api.OK) || !found && e != api.ErrNone {
			t.Fatalf("Choose(%v, %v, %v): error %d, %d, want %d", h, cand, skip, e, got, want)
		}
	}
}

// P6.4: Culprits goes on as its section says, question by question.
func TestCulpritsWays(t *testing.T) {
	for _, c := range []struct {
		good  string
		bad   int
		times int
		way   string
	}{
		{"0", 4, 1, "2p 3f =3"}, {"0", 4, 1, "2p 3p =4"}, {"0", 4, 1, "2p 3u =34"},
		{"0", 4, 1, "2f 1f =1"}, {"0", 4, 1, "2f 1p =2"}, {"0", 4, 1, "2f 1u =12"},
		{"0", 4, 1, "2u 3u 1u =1234"}, {"0", 4, 1, "2u 3f 1p =3"}, {"0", 4, 1, "2u 3p =24"},
		{"", 5, 1, "2p 3p 4p =5"}, {"", 5, 1, "2u 3u 1p 4f =234"}, {"", 5, 1, "2f 0f =0"}, {"", 5, 1, "2f 0p 1f =1"},
		{"2 3", 4, 1, "=4"}, {"3", 4, 1, "2f =2"}, {"6", 0, 1, "=0"}, {"", 6, 1, "=6"}, {"4", 5, 0, "=5"},
		{"2 6", 5, 3, "3u 3p 3u 4p 4f =4"}, {"2 6", 5, 3, "3u 3u 3f =3"}, {"2 6", 5, 2, "3u 3u 4u 4u =345"},
		{"4 5 6", 3, -1, "!12"}, {"3", 3, 1, "!12"}, {"5", 0, 1, "!12"}, {"0 1 2 3 4 5 6", 6, 1, "!12"},
		{"", -1, 1, "!1"}, {"", 7, 1, "!1"}, {"7", 1, 1, "!1"}, {"-1", 1, 1, "!1"}, {"1 1", 4, 1, "!1"}, {"2 1", 1, 1, "!1"}, {"5 9", 1, 1, "!1"},
	} {
		walk(t, fmt.Sprintf("Culprits(%s; %d, %d)", c.good, c.bad, c.times), culprits(branches(), numbers(c.good), c.bad, c.times).told, c.way)
	}
	if q, e := reduce.Culprits(history(), nil, 0, 1, nil); e != api.ErrArg || !isZero(q) {
		t.Errorf("Culprits without versions: error %d, %v", e, q)
	}
	tooMany := answersOf(api.VePass, api.MaxAsks+1)
	for want, bad := range map[api.Errno]int{api.ErrArg: 7, api.ErrClash: 0, api.ErrLimit: 4} {
		if q, e := reduce.Culprits(branches(), []int{0}, bad, 1, tooMany); e != want || !isZero(q) {
			t.Errorf("Culprits(0; %d) with too many answers: error %d, %v, want %d", bad, e, q, want)
		}
	}
}

// P6.10: low passes, high fails, and all versions between them are unknown.
func TestBisectEnds(t *testing.T) {
	r := rand.New(rand.NewSource(18))
	for range 2000 {
		n, times := 2+r.Intn(30), 1+r.Intn(3)
		kinds := make([]*verdicts, n)
		for v := range kinds {
			kinds[v] = randomVerdicts(r)
		}
		kinds[0] = &verdicts{Rand: r, pass: 100}
		kinds[n-1] = &verdicts{Rand: r, fail: 100}
		got := runSets(t, bisect(n, times), func(s []int) api.Verdict { return kinds[s[0]].draw() })
		if got.e != api.OK || len(got.end.Kept) != 2 {
			t.Fatalf("Bisect: error %d, %v", got.e, got.end)
		}
		low, high := got.end.Kept[0], got.end.Kept[1]
		for v := low; v <= high; v++ {
			want := api.VeUnknown
			switch v {
			case low:
				want = api.VePass
			case high:
				want = api.VeFail
			}
			if is := verdictOfVersion(got, v, times); is != want {
				t.Fatalf("Bisect ends with %v: the verdict on %d is %d", got.end.Kept, v, is)
			}
		}
	}
}

// verdictOfVersion returns what the answers say of a version, or VeNone if it was not asked as often as it has to be.
func verdictOfVersion(r told[[]int, api.Quest], v, times int) api.Verdict {
	count := map[api.Verdict]int{}
	all := 0
	for i, c := range r.asked {
		if c[0] == v {
			count[r.answers[i]]++
			all++
		}
	}
	switch {
	case count[api.VeFail] == 1:
		return api.VeFail
	case all != times:
		return api.VeNone
	case count[api.VePass] > 0:
		return api.VePass
	}
	return api.VeUnknown
}

// P6.10: the version that brought the failure in is among the culprits, and the only one if all versions can be tested.
func TestCulpritFound(t *testing.T) {
	r := rand.New(rand.NewSource(19))
	for range 2000 {
		h, _, bad := randomHistory(r)
		before := modelAncestors(h, bad)
		culprit := before[r.Intn(len(before))]
		broken := some(r, until(len(h.Parents)), 1+r.Intn(9))
		if r.Intn(2) == 0 {
			broken = nil
		}
		isBad := func(v int) bool { return slices.Contains(modelAncestors(h, v), culprit) }
		var good []int
		for _, v := range some(r, until(len(h.Parents)), 5) {
			if !isBad(v) {
				good = append(good, v)
			}
		}
		got := runSets(t, culprits(h, good, bad, 1), func(s []int) api.Verdict {
			if slices.Contains(broken, s[0]) {
				return api.VeUnknown
			}
			return verdict(isBad(s[0]))
		})
		if got.e != api.OK || !slices.Contains(got.end.Kept, culprit) || !slices.Contains(got.answers, api.VeUnknown) && len(got.end.Kept) != 1 {
			t.Fatalf("Culprits(%v, %v, %d): error %d, %v, want %d, answers %v", h, good, bad, got.e, got.end, culprit, got.answers)
		}
	}
}
