package reduce_test

import (
	"fmt"
	"math/rand"
	"slices"
	"testing"

	"sleuth/api"
	"sleuth/reduce"
)

// asker answers the questions of a model, which reads a section's words one after the other, and notes what was asked.
type asker struct {
	answer func(text string) api.Verdict
	known  map[string]api.Verdict
	asked  []string
}

func (a *asker) ask(candidate any) api.Verdict {
	text := fmt.Sprint(candidate)
	if _, is := a.known[text]; !is {
		a.known[text] = a.again(candidate)
	}
	return a.known[text]
}

// again asks also what was asked before.
func (a *asker) again(candidate any) api.Verdict {
	text := fmt.Sprint(candidate)
	a.asked = append(a.asked, text)
	return a.answer(text)
}

func (a *asker) fails(candidate any) bool { return a.ask(candidate) == api.VeFail }

func (a *asker) passes(candidate any) bool { return a.ask(candidate) == api.VePass }

// model is a search as its section describes it: Kept, Pass, and whether it comes to its end.
type model func(a *asker) (kept, pass []int, ok bool)

func modelChunks(l []int, n int) [][]int {
	if n < 1 {
		n = 1
	}
	if n > len(l) {
		n = len(l)
	}
	var all [][]int
	for k := 0; k < n; k++ {
		var chunk []int
		for i := k * len(l) / n; i <= (k+1)*len(l)/n-1; i++ {
			chunk = append(chunk, l[i])
		}
		all = append(all, chunk)
	}
	return all
}

// modelMinimize is the steps 2 and 3 of List.
func modelMinimize(c []int, fails func([]int) bool) []int {
	g := 2
step:
	for len(c) >= 2 {
		for _, chunk := range modelChunks(c, g) {
			if fails(chunk) {
				c, g = chunk, 2
				continue step
			}
		}
		for _, chunk := range modelChunks(c, g) {
			if rest := less(c, chunk); fails(rest) {
				c, g = rest, g-1
				if g < 2 {
					g = 2
				}
				continue step
			}
		}
		if g >= len(c) {
			break
		}
		if g *= 2; g > len(c) {
			g = len(c)
		}
	}
	if len(c) == 1 && fails(nil) {
		return nil
	}
	return c
}

func modelList(n int) model {
	return func(a *asker) ([]int, []int, bool) {
		if !a.fails(until(n)) {
			return nil, nil, false
		}
		return modelMinimize(until(n), func(s []int) bool { return a.fails(s) }), nil, true
	}
}

func modelCounted(n, start int) model {
	return func(a *asker) ([]int, []int, bool) {
		if !a.fails(until(n)) {
			return nil, nil, false
		}
		size := func(k int) int {
			half := start
			for range k {
				half /= 2
			}
			if half < 1 {
				return 1
			}
			return half
		}
		last := 0
		for size(last) > 1 {
			last++
		}
		kept, level := until(n), map[int]int{}
		for {
			var group []int
			for k := 0; k <= last && len(group) == 0; k++ {
				for _, i := range kept {
					if level[i] == k && len(group) < size(k) {
						group = append(group, i)
					}
				}
			}
			if len(group) == 0 {
				return kept, nil, true
			}
			if a.fails(less(kept, group)) {
				kept = less(kept, group)
				for _, i := range kept {
					if level[i] == last+1 {
						level[i] = last
					}
				}
			} else {
				for _, i := range group {
					level[i]++
				}
			}
		}
	}
}

func modelRemovable(kept []int) model {
	return func(a *asker) ([]int, []int, bool) {
		for _, i := range kept {
			if a.fails(less(kept, []int{i})) {
				return []int{i}, nil, true
			}
		}
		return nil, nil, true
	}
}

func modelDifference(n int) model {
	return func(a *asker) ([]int, []int, bool) {
		if !a.passes([]int(nil)) || !a.fails(until(n)) {
			return nil, nil, false
		}
		p, f, g := []int(nil), until(n), 2
	step:
		for len(f) >= len(p)+2 {
			d := less(f, p)
			coarser := g - 1
			if coarser < 2 {
				coarser = 2
			}
			for _, x := range modelChunks(d, g) {
				with, out := a.ask(more(p, x)), a.ask(less(f, x))
				if with == api.VeFail {
					f, g = more(p, x), 2
					continue step
				}
				if out == api.VePass {
					p, g = less(f, x), 2
					continue step
				}
				if with == api.VePass {
					p, g = more(p, x), coarser
					continue step
				}
				if out == api.VeFail {
					f, g = less(f, x), coarser
					continue step
				}
			}
			if g >= len(d) {
				break
			}
			if g *= 2; g > len(d) {
				g = len(d)
			}
		}
		return f, p, true
	}
}

// modelVersion asks a version as often as the section says.
func (a *asker) version(v, times int) api.Verdict {
	if times < 1 {
		times = 1
	}
	if times > api.MaxTimes {
		times = api.MaxTimes
	}
	passed := false
	for range times {
		switch a.again([]int{v}) {
		case api.VeFail:
			return api.VeFail
		case api.VePass:
			passed = true
		}
	}
	if passed {
		return api.VePass
	}
	return api.VeUnknown
}

func modelBisect(n, times int) model {
	return func(a *asker) ([]int, []int, bool) {
		if a.version(0, times) != api.VePass || a.version(n-1, times) != api.VeFail {
			return nil, nil, false
		}
		low, high := 0, n-1
		known := map[int]bool{}
		for {
			next := -1
			m := (low + high) / 2
			for i := 0; next < 0 && i <= n; i++ {
				for _, v := range []int{m + i, m - i} {
					if next < 0 && v > low && v < high && !known[v] {
						next = v
					}
				}
			}
			if next < 0 {
				return []int{low, high}, nil, true
			}
			known[next] = true
			switch a.version(next, times) {
			case api.VePass:
				low = next
			case api.VeFail:
				high = next
			}
		}
	}
}

// modelAncestors is a version and those that its parents have.
func modelAncestors(h api.History, v int) []int {
	l := []int{v}
	for _, p := range h.Parents[v] {
		l = more(l, modelAncestors(h, p))
	}
	return l
}

func modelChoose(h api.History, cand, skip []int) (int, bool) {
	best, found, v := 0, false, 0
	for _, c := range less(cand, skip) {
		a := len(cand) - len(less(cand, modelAncestors(h, c)))
		half := a
		if len(cand)-a < half {
			half = len(cand) - a
		}
		if !found || half > best {
			best, found, v = half, true, c
		}
	}
	return v, found
}

func modelCulprits(h api.History, good []int, bad, times int) model {
	return func(a *asker) ([]int, []int, bool) {
		cand, skip := modelAncestors(h, bad), []int{bad}
		for _, v := range good {
			cand = less(cand, modelAncestors(h, v))
		}
		for {
			v, found := modelChoose(h, cand, skip)
			if !found {
				return cand, nil, true
			}
			switch a.version(v, times) {
			case api.VeFail:
				cand = less(cand, less(cand, modelAncestors(h, v)))
				skip = more(skip, []int{v})
			case api.VePass:
				cand = less(cand, modelAncestors(h, v))
			default:
				skip = more(skip, []int{v})
			}
		}
	}
}

// modelClose adds what is needed until nothing is missing.
func modelClose(needs [][]int, set []int) []int {
	for {
		all := set
		for _, i := range set {
			all = more(all, needs[i])
		}
		if len(all) == len(set) {
			return all
		}
		set = all
	}
}

// modelWithout takes away what misses something that it needs until nothing misses anything.
func modelWithout(needs [][]int, set []int, i int) []int {
	set = less(set, []int{i})
	for again := true; again; {
		again = false
		for _, j := range set {
			if !isWithin(needs[j], set) {
				set, again = less(set, []int{j}), true
			}
		}
	}
	return set
}

func modelChanges(needs [][]int) model {
	return func(a *asker) ([]int, []int, bool) {
		c := until(len(needs))
		if !a.fails(c) {
			return nil, nil, false
		}
	step:
		for {
			for _, i := range c {
				if rest := modelWithout(needs, c, i); a.fails(rest) {
					c = rest
					continue step
				}
			}
			return c, nil, true
		}
	}
}

// follows checks that a search asks what its model asks, and comes to what that comes to.
func follows(t *testing.T, name string, next setSearch, m model, answer func(text string) api.Verdict) told[[]int, api.Quest] {
	t.Helper()
	r := runSets(t, next, func(s []int) api.Verdict { return answer(fmt.Sprint(s)) })
	replies := slices.Clone(r.answers)
	a := &asker{known: map[string]api.Verdict{}, answer: func(string) api.Verdict {
		if len(replies) == 0 {
			return api.VeNone
		}
		v := replies[0]
		replies = replies[1:]
		return v
	}}
	kept, pass, ok := m(a)
	sameQuestions(t, name, r.texts(), a.asked)
	if ok && (r.e != api.OK || !r.end.Done || !slices.Equal(r.end.Kept, kept) || !slices.Equal(r.end.Pass, pass)) || !ok && (r.e != api.ErrNone || !isZero(r.end)) {
		t.Fatalf("%s: error %d, %v, want %v, %v, %v", name, r.e, r.end, ok, kept, pass)
	}
	return r
}

// sameQuestions checks that the questions of a search are those of its model.
func sameQuestions(t *testing.T, name string, got, want []string) {
	t.Helper()
	for i := range max(len(got), len(want)) {
		switch {
		case i >= len(got):
			t.Fatalf("%s ends behind %d questions, want %s", name, i, want[i])
		case i >= len(want):
			t.Fatalf("%s has the question %d: %s", name, i, got[i])
		case got[i] != want[i]:
			t.Fatalf("%s has the question %d: %s, want %s", name, i, got[i], want[i])
		}
	}
}

// first answers the first question of a search, and all others at random.
func (v *verdicts) first(text string, is api.Verdict) *verdicts {
	if v.Intn(9) > 0 {
		v.known[text] = is
	}
	return v
}

// P6.1: the searches for sets of items do what their sections say, whatever is answered.
func TestSetModels(t *testing.T) {
	r := rand.New(rand.NewSource(6))
	for range 1500 {
		n := r.Intn(13)
		all := fmt.Sprint(until(n))
		follows(t, fmt.Sprintf("List(%d)", n), list(n), modelList(n), randomVerdicts(r).first(all, api.VeFail).of)
		start := 1 + r.Intn(9)
		follows(t, fmt.Sprintf("Counted(%d, %d)", n, start), counted(n, start), modelCounted(n, start), randomVerdicts(r).first(all, api.VeFail).of)
		kept := some(r, until(api.MaxItems), 40)
		follows(t, fmt.Sprintf("Removable(%v)", kept), removable(kept), modelRemovable(kept), randomVerdicts(r).of)
		v := randomVerdicts(r).first(all, api.VeFail)
		follows(t, fmt.Sprintf("Difference(%d)", n), difference(n), modelDifference(n), v.first("[]", api.VePass).of)
	}
}

// P6.1: sets with as many items as are allowed.
func TestManyItems(t *testing.T) {
	r := rand.New(rand.NewSource(7))
	n := api.MaxItems
	all := fmt.Sprint(until(n))
	for _, fail := range []int{0, 1, 30} {
		random := func() *verdicts {
			return &verdicts{r, fail, 50, map[string]api.Verdict{all: api.VeFail, "[]": api.VePass}}
		}
		follows(t, "List", list(n), modelList(n), random().of)
		start := 1 + r.Intn(n)
		follows(t, "Counted", counted(n, start), modelCounted(n, start), random().of)
		follows(t, "Removable", removable(until(n)), modelRemovable(until(n)), random().of)
		follows(t, "Difference", difference(n), modelDifference(n), random().of)
	}
}

// P6.4: the searches for versions do what their sections say, whatever is answered, and whatever is answered when they ask again.
func TestVersionModels(t *testing.T) {
	r := rand.New(rand.NewSource(8))
	for range 1500 {
		n, times := 2+r.Intn(20), r.Intn(13)-1
		v := randomVerdicts(r)
		follows(t, fmt.Sprintf("Bisect(%d, %d)", n, times), bisect(n, times), modelBisect(n, times), func(text string) api.Verdict {
			switch {
			case text == "[0]" && v.Intn(40) > 0:
				return []api.Verdict{api.VePass, api.VeUnknown}[min(v.Intn(9), 1)]
			case text == fmt.Sprint([]int{n - 1}) && v.Intn(20) > 0:
				return api.VeFail
			}
			return v.draw()
		})
		h, good, bad := randomHistory(r)
		v = randomVerdicts(r)
		follows(t, fmt.Sprintf("Culprits(%v, %v, %d, %d)", h.Parents, good, bad, times), culprits(h, good, bad, times), modelCulprits(h, good, bad, times), func(string) api.Verdict { return v.draw() })
	}
}

// randomHistory returns a history, and good versions of it of which a bad one is no ancestor.
func randomHistory(r *rand.Rand) (h api.History, good []int, bad int) {
	h.Parents = make([][]int, 1+r.Intn(20))
	of := 1 + r.Intn(8)
	for v := range h.Parents {
		h.Parents[v] = some(r, until(v), of)
	}
	bad = r.Intn(len(h.Parents))
	for _, v := range some(r, until(len(h.Parents)), 6) {
		if !slices.Contains(modelAncestors(h, v), bad) {
			good = append(good, v)
		}
	}
	return h, good, bad
}

// P6.5: Changes does what its section says, whatever is answered.
func TestChangesModel(t *testing.T) {
	r := rand.New(rand.NewSource(9))
	for range 1500 {
		needs := randomNeeds(r, r.Intn(12))
		v := randomVerdicts(r).first(fmt.Sprint(until(len(needs))), api.VeFail)
		follows(t, fmt.Sprintf("Changes(%v)", needs), changes(needs), modelChanges(needs), v.of)
	}
}

// randomNeeds returns what so many changes need, some of them one another.
func randomNeeds(r *rand.Rand, n int) [][]int {
	needs := make([][]int, n)
	of := 1 + r.Intn(2*n+1)
	for i := range needs {
		needs[i] = less(some(r, until(n), of), []int{i})
	}
	return needs
}

// P6.3: Schedule does what its section says, whatever is answered.
func TestScheduleModel(t *testing.T) {
	r := rand.New(rand.NewSource(10))
	for range 1500 {
		l := randomPicks(r, r.Intn(14))
		normal, _ := reduce.Normal(l)
		v := randomVerdicts(r).first(fmt.Sprint(normal), api.VeFail)
		got := runPicks(t, l, func(c []api.Pick) api.Verdict { return v.of(fmt.Sprint(c)) })
		a := &asker{known: map[string]api.Verdict{}, answer: v.of}
		want, ok := modelSchedule(a, normal)
		sameQuestions(t, fmt.Sprintf("Schedule(%v)", l), got.texts(), a.asked)
		if ok && (got.e != api.OK || !got.end.Done || !slices.Equal(got.end.Picks, want)) || !ok && (got.e != api.ErrNone || got.end.Done || len(got.end.Picks) > 0) {
			t.Fatalf("Schedule(%v): error %d, %v, want %v, %v", l, got.e, got.end, ok, want)
		}
	}
}

func modelSchedule(a *asker, c []api.Pick) ([]api.Pick, bool) {
	if !a.fails(c) {
		return nil, false
	}
step:
	for {
		preemptions, _ := reduce.Preemptions(c)
		for _, at := range preemptions {
			if j, _ := reduce.Join(c, at); a.fails(j) {
				c = j
				continue step
			}
		}
		return c, true
	}
}

// randomPicks returns a schedule, with neighbours of one thread.
func randomPicks(r *rand.Rand, n int) []api.Pick {
	var l []api.Pick
	threads := 1 + r.Intn(4)
	for range n {
		l = append(l, api.Pick{Thread: r.Intn(threads), Count: 1 + r.Intn(3)})
	}
	return l
}
