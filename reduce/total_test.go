package reduce_test

import (
	"fmt"
	"math/rand"
	"slices"
	"testing"

	"sleuth/api"
	"sleuth/reduce"
)

// The chapter's own examples.
func TestExamples(t *testing.T) {
	if l := reduce.Chunks([]int{1, 2, 3, 4, 5}, 2); !sameLists(l, [][]int{{1, 2}, {3, 4, 5}}) {
		t.Error(l)
	}
	for _, c := range []struct {
		next setSearch
		told string
		want string
	}{
		{list(4), "", "?0123"}, {list(4), "f", "?01"}, {list(2), "fpp", "=01"}, {bisect(5, 1), "pfu", "?3"},
	} {
		if got := c.next.told(answersIn(c.told)); got != c.want {
			t.Errorf("behind %s: %s, want %s", c.told, got, c.want)
		}
	}
	got := runSets(t, list(4), func(s []int) api.Verdict { return verdict(isWithin([]int{1, 3}, s)) })
	if !slices.Equal(got.end.Kept, []int{1, 3}) {
		t.Error(got.end)
	}
}

// P6.1: the errors of the searches for items, which come ahead of the one for too many answers.
func TestItemErrors(t *testing.T) {
	for _, answers := range [][]api.Verdict{nil, answersIn("p"), answersIn("fff"), answersOf(api.VePass, api.MaxAsks+1)} {
		for _, n := range []int{api.MaxItems + 1, 1 << 31, 1<<63 - 1} {
			for name, next := range map[string]setSearch{"List": list(n), "Counted": counted(n, 1), "Difference": difference(n)} {
				if got := next.told(answers); got != "!3" {
					t.Errorf("%s of %d items: %s", name, n, got)
				}
			}
		}
		for _, kept := range [][]int{{-1}, {api.MaxItems}, {0, api.MaxItems}, {-1, 0}, {1, 1}, {2, 1}, {0, 3, 2, 5}, {1 << 62}, {-1 << 63, 5}, make([]int, 1000)} {
			if got := removable(kept).told(answers); got != "!1" {
				t.Errorf("Removable of %d elements: %s", len(kept), got)
			}
		}
	}
}

// P6.2: all functions for trees return the error of the grammar first, then that of the tree.
func TestTreeErrors(t *testing.T) {
	g, x := forms(), node(0, in(leaf(1, "x")), nil, nil)
	none := shape(api.Tree{})
	tooMany := answersOf(api.VePass, api.MaxAsks+1)
	for i, c := range []struct {
		g    api.Grammar
		x    api.Tree
		want api.Errno
	}{
		{api.Grammar{}, x, api.ErrArg},
		{chain(api.MaxRules + 1), x, api.ErrLimit},
		{chain(api.MaxDepth + 1), x, api.ErrNone},
		{chain(api.MaxDepth + 1), leaf(1, text(17)), api.ErrNone},
		{g, leaf(1, text(17)), api.ErrLimit},
		{g, node(0), api.ErrArg},
	} {
		if e := reduce.CheckTree(c.g, c.x); e != c.want {
			t.Errorf("CheckTree, case %d: error %d, want %d", i, e, c.want)
		}
		if s, e := reduce.Print(c.g, c.x); e != c.want || s != "" {
			t.Errorf("Print, case %d: error %d, %s, want %d", i, e, s, c.want)
		}
		if l, e := reduce.Prunable(c.g, c.x); e != c.want || len(l) > 0 {
			t.Errorf("Prunable, case %d: error %d, %v, want %d", i, e, l, c.want)
		}
		if p, e := reduce.Prune(c.g, c.x, []int{-1}); e != c.want || shape(p) != none {
			t.Errorf("Prune, case %d: error %d, %v, want %d", i, e, p, c.want)
		}
		if h, e := reduce.Hoist(c.g, c.x, -1, -1); e != c.want || shape(h) != none {
			t.Errorf("Hoist, case %d: error %d, %v, want %d", i, e, h, c.want)
		}
		for _, answers := range [][]api.Verdict{nil, answersIn("p"), tooMany} {
			if q, e := reduce.Tree(c.g, c.x, answers); e != c.want || q.Done || shape(q.Tree) != none {
				t.Errorf("Tree, case %d: error %d, %v, want %d", i, e, q, c.want)
			}
		}
	}
	for _, c := range []struct {
		answers []api.Verdict
		want    api.Errno
	}{
		{answersIn("p"), api.ErrNone}, {answersIn("u"), api.ErrNone}, {answersIn("pff"), api.ErrNone}, {tooMany, api.ErrLimit}, {answersOf(api.VePass, api.MaxAsks), api.ErrNone}, {answersIn("fp"), api.ErrState},
	} {
		if q, e := reduce.Tree(g, x, c.answers); e != c.want || q.Done || shape(q.Tree) != none {
			t.Errorf("Tree with %d answers: error %d, %v, want %d", len(c.answers), e, q, c.want)
		}
	}
}

// R3: a nil list and an empty one are the same.
func TestEmptyLists(t *testing.T) {
	none := []int{}
	if l := reduce.Chunks(none, 3); len(l) != 0 {
		t.Error(l)
	}
	if q, e := reduce.Removable(none, []api.Verdict{}); e != api.OK || !q.Done {
		t.Error(q, e)
	}
	if q, e := reduce.Schedule([]api.Pick{}, []api.Verdict{}); e != api.OK || q.Done {
		t.Error(q, e)
	}
	if v, e := reduce.Choose(history([]int{}, []int{0}), []int{1}, none); e != api.OK || v != 1 {
		t.Error(v, e)
	}
	if q, e := reduce.Culprits(history([]int{}, []int{0}), none, 1, 1, []api.Verdict{}); e != api.OK || !slices.Equal(q.Ask, []int{0}) {
		t.Error(q, e)
	}
	if q, e := reduce.Changes([][]int{{}, none}, []api.Verdict{}); e != api.OK || len(q.Ask) != 2 {
		t.Error(q, e)
	}
	if l, e := reduce.Close([][]int{{}}, none); e != api.OK || len(l) != 0 {
		t.Error(l, e)
	}
	g, x := forms(), node(0, in(leaf(1, "x")), in(), in())
	g.Rules[1].Slots, x.Slots[0][0].Slots = []api.Slot{}, [][]api.Tree{}
	if e := reduce.CheckTree(g, x); e != api.OK {
		t.Error(e)
	}
	if p, e := reduce.Prune(g, x, none); e != api.OK || shape(p) != shape(x) {
		t.Error(p, e)
	}
}

// spare returns a list with memory behind it that nobody may touch.
func spare[T any](l []T, behind T) []T { return append(slices.Clip(l), behind, behind)[:len(l)] }

// everything returns what all functions return for some arguments, as a text, and spoils it then.
func everything(a arguments) string {
	var l []string
	sets := func(q api.Quest, e api.Errno) {
		l = append(l, fmt.Sprint(q, e))
		spoil(q.Ask, -9)
		spoil(q.Kept, -9)
		spoil(q.Pass, -9)
	}
	list := func(n []int, e api.Errno) {
		l = append(l, fmt.Sprint(n, e))
		spoil(n, -9)
	}
	trees := func(x api.Tree, e api.Errno) {
		l = append(l, shape(x), fmt.Sprint(e))
		spoilTree(&x)
	}
	chunks := reduce.Chunks(a.set, 2)
	l = append(l, fmt.Sprint(chunks))
	for _, c := range chunks {
		spoil(c, -9)
	}
	for n := range len(a.answers) + 1 {
		answers := spare(slices.Clone(a.answers[:n]), 99)
		sets(reduce.List(5, answers))
		sets(reduce.Counted(5, 2, answers))
		sets(reduce.Removable(a.set, answers))
		sets(reduce.Difference(5, append(answersIn("p"), answers...)))
		sets(reduce.Bisect(7, 1, append(answersIn("p"), answers...)))
		sets(reduce.Culprits(a.h, a.set[:1], 5, 1, answers))
		sets(reduce.Changes(a.needs, answers))
		picked, e := reduce.Schedule(a.picks, answers)
		l = append(l, fmt.Sprint(picked, e))
		spoil(picked.Picks, api.Pick{Thread: -9})
		q, e := reduce.Tree(a.g, a.x, answers)
		trees(q.Tree, e)
	}
	list(reduce.Prunable(a.g, a.x))
	list(reduce.Ancestors(a.h, 4))
	list(reduce.Close(a.needs, a.set[1:2]))
	list(reduce.Without(a.needs, a.closed, 1))
	list(reduce.Preemptions(a.picks))
	trees(reduce.Least(a.g, 0))
	trees(reduce.Prune(a.g, a.x, a.at))
	trees(reduce.Hoist(a.g, a.x, 0, 4))
	for _, at := range []int{-1, 0} {
		p, e := reduce.Join(a.picks, at)
		if at < 0 {
			p, e = reduce.Normal(a.picks)
		}
		l = append(l, fmt.Sprint(p, e))
		spoil(p, api.Pick{Thread: -9})
	}
	v, e := reduce.Choose(a.h, a.set[1:], a.set[2:])
	s, f := reduce.Print(a.g, a.x)
	l = append(l, fmt.Sprint(v, e, s, f, reduce.Nodes(a.x)))
	return fmt.Sprint(l)
}

// arguments is what the functions are given to see whether they change it.
type arguments struct {
	set, closed, at []int
	picks           []api.Pick
	h               api.History
	needs           [][]int
	g               api.Grammar
	x               api.Tree
	answers         []api.Verdict
}

func (a arguments) String() string {
	return fmt.Sprint(a.set[:cap(a.set)], a.closed[:cap(a.closed)], a.at[:cap(a.at)], a.picks[:cap(a.picks)], a.h, a.needs, a.g, shape(a.x), a.answers[:cap(a.answers)])
}

// spoil overwrites all memory that a list has.
func spoil[T any](l []T, with T) {
	for i := range l[:cap(l)] {
		l[:cap(l)][i] = with
	}
}

func spoilTree(t *api.Tree) {
	for i, l := range t.Slots {
		for j := range l {
			spoilTree(&l[j])
		}
		spoil(l, leaf(-9, "?"))
		t.Slots[i] = nil
	}
}

// R4: no argument is changed, what is returned is new memory, and nothing is kept.
func TestMemory(t *testing.T) {
	wide := api.Slot{Many: api.SlList, Kinds: []int{0, 1}, Between: "+"}
	a := arguments{
		set: spare([]int{0, 1, 3}, 77), closed: spare([]int{0, 1, 2}, 77), at: spare([]int{1, 3}, 77),
		picks: spare(picks("0 1, 1 2, 0 3, 2 4, 1 5"), api.Pick{Thread: 77}),
		h:     branches(), needs: chained(),
		g: api.Grammar{Rules: []api.Rule{{Before: "(", After: ")", Slots: []api.Slot{wide}}, {Leaf: true}}},
		x: read("[[a,b],[[c]],d]"), answers: spare(answersIn("fpupfpp"), 77),
	}
	before := a.String()
	want := everything(a)
	for range 3 {
		if got := everything(a); got != want {
			t.Fatalf("%s, then %s", want, got)
		}
		if a.String() != before {
			t.Fatalf("an argument changes: %s, then %s", before, a)
		}
	}
}

// R4: no two lists of a result share memory.
func TestListsApart(t *testing.T) {
	l := reduce.Chunks(until(10), 3)
	want := fmt.Sprint(l)
	for _, chunk := range l {
		_ = append(chunk, -9, -9, -9)
	}
	if fmt.Sprint(l) != want {
		t.Error("a chunk grows into another one")
	}
	r := rand.New(rand.NewSource(27))
	for range 300 {
		g, x := goodTree(r, 40)
		prunable, _ := reduce.Prunable(g, x)
		p, _ := reduce.Prune(g, x, some(r, prunable, 2))
		least, _ := reduce.Least(g, x.Kind)
		q, _ := reduce.Tree(g, x, nil)
		result, e := reduce.Tree(g, x, answersIn("f"))
		seen := map[any]bool{}
		for _, tree := range []api.Tree{x, p, least, q.Tree, result.Tree} {
			if twice := tellMemory(tree, seen); twice {
				t.Fatalf("%v, %s: memory is shared (error %d)", g, shape(x), e)
			}
		}
	}
	p, q := runSets(t, difference(4), func(s []int) api.Verdict { return verdict(isWithin([]int{1, 3}, s)) }).end, api.Quest{}
	q.Kept, q.Pass = slices.Clone(p.Kept), slices.Clone(p.Pass)
	_ = append(p.Pass[:0], -9, -9, -9, -9)
	if !slices.Equal(p.Kept, q.Kept) {
		t.Error("Pass and Kept share memory")
	}
}

// tellMemory notes where the lists of a tree are, and reports whether there is one already.
func tellMemory(t api.Tree, seen map[any]bool) bool {
	twice := false
	note := func(where any) {
		twice = twice || seen[where]
		seen[where] = true
	}
	for i := range t.Slots {
		note(&t.Slots[i])
		for j := range t.Slots[i] {
			note(&t.Slots[i][j])
			twice = tellMemory(t.Slots[i][j], seen) || twice
		}
	}
	return twice
}

// P0.1, R2: nothing panics, whatever is handed in, and with an error all else is zero.
func TestTotal(t *testing.T) {
	r := rand.New(rand.NewSource(28))
	odd := func() int {
		return []int{0, 1, 2, 3, 5, 9, -1, 255, 256, 257, 1 << 31, -1 << 63, 1<<63 - 1}[r.Intn(13)]
	}
	some := func() []int { return []int{odd(), odd(), odd()}[:r.Intn(4)] }
	rows := func() [][]int {
		var l [][]int
		for range r.Intn(6) {
			l = append(l, some())
		}
		return l
	}
	for range 20000 {
		answers := make([]api.Verdict, r.Intn(8))
		for i := range answers {
			answers[i] = api.Verdict(r.Intn(5))
		}
		for _, next := range []setSearch{list(odd()), counted(odd(), odd()), removable(some()), difference(odd()), changes(rows()), bisect(odd(), odd()), culprits(api.History{Parents: rows()}, some(), odd(), odd())} {
			if q, e := next(answers); e != api.OK && !isZero(q) || q.Done && len(q.Ask) > 0 {
				t.Fatalf("error %d, %v", e, q)
			}
		}
		reduce.Chunks(some(), odd())
		h, needs := api.History{Parents: rows()}, rows()
		for _, f := range []func() ([]int, api.Errno){
			func() ([]int, api.Errno) { return reduce.Ancestors(h, odd()) },
			func() ([]int, api.Errno) { return reduce.Close(needs, some()) },
			func() ([]int, api.Errno) { return reduce.Without(needs, some(), odd()) },
			func() ([]int, api.Errno) {
				v, e := reduce.Choose(h, some(), some())
				return slices.Repeat([]int{v}, min(v, 1)), e
			},
		} {
			if l, e := f(); e != api.OK && len(l) > 0 {
				t.Fatalf("error %d, %v", e, l)
			}
		}
		l := []api.Pick{{Thread: odd(), Count: odd()}, {Thread: odd(), Count: odd()}}[:r.Intn(3)]
		reduce.Normal(l)
		reduce.Preemptions(l)
		reduce.Join(l, odd())
		reduce.Schedule(l, answers)
		g, x := junkGrammar(r, odd), junkTree(r, odd, 4)
		reduce.CheckGrammar(g)
		reduce.Least(g, odd())
		reduce.CheckTree(g, x)
		reduce.Print(g, x)
		reduce.Nodes(x)
		reduce.Prunable(g, x)
		reduce.Prune(g, x, some())
		reduce.Hoist(g, x, odd(), odd())
		reduce.Tree(g, x, answers)
	}
}

// junkGrammar returns a grammar with any fields.
func junkGrammar(r *rand.Rand, odd func() int) api.Grammar {
	var g api.Grammar
	for range r.Intn(4) {
		rule := api.Rule{Before: text(r.Intn(3) * 8), After: text(r.Intn(3) * 8), Leaf: r.Intn(2) == 0}
		for range r.Intn(3) {
			rule.Slots = append(rule.Slots, api.Slot{Many: api.SlotKind(r.Intn(4)), Kinds: []int{odd(), odd()}[:r.Intn(3)], Between: text(r.Intn(3) * 8)})
		}
		g.Rules = append(g.Rules, rule)
	}
	return g
}

func junkTree(r *rand.Rand, odd func() int, height int) api.Tree {
	t := api.Tree{Kind: odd(), Text: text(r.Intn(3) * 8)}
	for range r.Intn(height) {
		var l []api.Tree
		for range r.Intn(height) {
			l = append(l, junkTree(r, odd, height-1))
		}
		t.Slots = append(t.Slots, l)
	}
	return t
}
