package learn_test

import (
	"fmt"
	"math"
	"math/rand"
	"slices"
	"testing"

	"sleuth/api"
	"sleuth/learn"
)

// P8.2: what Claims finds, by its rules.
func TestClaims(t *testing.T) {
	for rows, want := range map[string]string{
		// single variables
		"5": "a == 5", "0,0,0": "a == 0", "-2147483647": "a == -2147483647",
		"1,2": "a >= 1, a <= 2, a in 1 2", "7,3,3,5,7": "a >= 3, a <= 7, a in 3 5 7", "2147483647,-2147483647": "a >= -2147483647, a <= 2147483647, a in -2147483647 2147483647, a != 0",
		"-1,1": "a >= -1, a <= 1, a in -1 1, a != 0", "-1,0,1": "a >= -1, a <= 1, a in -1 0 1", "0,1": "a >= 0, a <= 1, a in 0 1", "-1,-2": "a >= -2, a <= -1, a in -2 -1",
		"1,2,3,4": "a >= 1, a <= 4", "4,3,2,1,0,-1": "a >= -1, a <= 4", "-3,1,5,9": "a >= -3, a <= 9, a != 0, a % 4 == 1", "-8,-4,4,8": "a >= -8, a <= 8, a != 0, a % 4 == 0",
		"3,9,15,33": "a >= 3, a <= 33, a % 6 == 3", "6,10,15,0": "a >= 0, a <= 15", "-6,-9,-12,-3": "a >= -12, a <= -3, a % 3 == 0", "10,13,10,16,19": "a >= 10, a <= 19, a % 3 == 1",
		"-2147483647,-715827883,715827881,2147483645": "a >= -2147483647, a <= 2147483645, a != 0, a % 1431655764 == 715827881",
		"-2147483647,-715827883,715827881,2147483647": "a >= -2147483647, a <= 2147483647, a != 0, a % 2 == 1",
		// pairs
		"1 1,2 2,3 3":                            "a >= 1, a <= 3, a in 1 2 3, b >= 1, b <= 3, b in 1 2 3, a == b",
		"1 2,3 4":                                "a >= 1, a <= 3, a in 1 3, b >= 2, b <= 4, b in 2 4, a < b",
		"2 1,4 3":                                "a >= 2, a <= 4, a in 2 4, b >= 1, b <= 3, b in 1 3, b < a",
		"1 2,3 3":                                "a >= 1, a <= 3, a in 1 3, b >= 2, b <= 3, b in 2 3, a <= b",
		"2 1,3 3":                                "a >= 2, a <= 3, a in 2 3, b >= 1, b <= 3, b in 1 3, b <= a",
		"1 2,2 1":                                "a >= 1, a <= 2, a in 1 2, b >= 1, b <= 2, b in 1 2, a != b",
		"1 2,2 1,1 1":                            "a >= 1, a <= 2, a in 1 2, b >= 1, b <= 2, b in 1 2",
		"1 3,2 4":                                "a >= 1, a <= 2, a in 1 2, b >= 3, b <= 4, b in 3 4", // less follows from the bounds
		"3 1,4 2":                                "a >= 3, a <= 4, a in 3 4, b >= 1, b <= 2, b in 1 2",
		"1 2,2 3":                                "a >= 1, a <= 2, a in 1 2, b >= 2, b <= 3, b in 2 3, a < b", // the bounds tell only that it is not greater
		"1 2,2 2,2 3":                            "a >= 1, a <= 2, a in 1 2, b >= 2, b <= 3, b in 2 3",        // less or equal follows from the bounds
		"2 1,2 2,3 2":                            "a >= 2, a <= 3, a in 2 3, b >= 1, b <= 2, b in 1 2",
		"1 3,3 2,3 3":                            "a >= 1, a <= 3, a in 1 3, b >= 2, b <= 3, b in 2 3",
		"1 5,2 5":                                "a >= 1, a <= 2, a in 1 2, b == 5", // nothing about a constant
		"5 1,5 2":                                "a == 5, b >= 1, b <= 2, b in 1 2",
		"5 5,5 5":                                "a == 5, b == 5",
		"1 2,3 6,2 4":                            "a >= 1, a <= 3, a in 1 2 3, b >= 2, b <= 6, b in 2 4 6, a < b, b == 2 * a + 0",
		"2 1,6 3,4 2":                            "a >= 2, a <= 6, a in 2 4 6, b >= 1, b <= 3, b in 1 2 3, b < a, a == 2 * b + 0",
		"1 9,2 8,3 7":                            "a >= 1, a <= 3, a in 1 2 3, b >= 7, b <= 9, b in 7 8 9, b == -1 * a + 10", // both ways, and the first one counts
		"2 3,4 6,6 9":                            "a >= 2, a <= 6, a in 2 4 6, b >= 3, b <= 9, b in 3 6 9, a < b",            // no integers
		"1 2,3 6,1 2":                            "a >= 1, a <= 3, a in 1 3, b >= 2, b <= 6, b in 2 6, a < b",                // two points only
		"1 2,3 6,2 5":                            "a >= 1, a <= 3, a in 1 2 3, b >= 2, b <= 6, b in 2 5 6, a < b",
		"1 1,1 2,2 3":                            "a >= 1, a <= 2, a in 1 2, b >= 1, b <= 3, b in 1 2 3, a <= b",
		"0 1 5,2 2 7":                            "a >= 0, a <= 2, a in 0 2, b >= 1, b <= 2, b in 1 2, c >= 5, c <= 7, c in 5 7, a <= b",
		"1 1 2,2 2 1":                            "a >= 1, a <= 2, a in 1 2, b >= 1, b <= 2, b in 1 2, c >= 1, c <= 2, c in 1 2, a == b, a != c, b != c",
		"0 0 1,0 1 0":                            "a == 0, b >= 0, b <= 1, b in 0 1, c >= 0, c <= 1, c in 0 1, b != c",
		"1 4 2,2 9 3":                            "a >= 1, a <= 2, a in 1 2, b >= 4, b <= 9, b in 4 9, c >= 2, c <= 3, c in 2 3, a < c",
		"-1 2147483647,0 0,1 -2147483647":        "a >= -1, a <= 1, a in -1 0 1, b >= -2147483647, b <= 2147483647, b in -2147483647 0 2147483647, b == -2147483647 * a + 0",
		"0 -2147483647,1 1,2 2147483647":         "a >= 0, a <= 2, a in 0 1 2, b >= -2147483647, b <= 2147483647, b in -2147483647 1 2147483647, b != 0",
		"0 0,2147483647 2147483647,1 2":          "a >= 0, a <= 2147483647, a in 0 1 2147483647, b >= 0, b <= 2147483647, b in 0 2 2147483647, a <= b",
		"2147483647 0,2147483646 2,2147483645 4": "a >= 2147483645, a <= 2147483647, a in 2147483645 2147483646 2147483647, b >= 0, b <= 4, b in 0 2 4",
		"2147483647 1,2147483646 2,2147483645 3": "a >= 2147483645, a <= 2147483647, a in 2147483645 2147483646 2147483647, b >= 1, b <= 3, b in 1 2 3", // 2^31 - a is one too much
		"2147483647 0,2147483646 1,2147483645 2": "a >= 2147483645, a <= 2147483647, a in 2147483645 2147483646 2147483647, b >= 0, b <= 2, b in 0 1 2, b == -1 * a + 2147483647",
		"-2147483647 -2147483647,0 2147483647,2147483647 -1":  "a >= -2147483647, a <= 2147483647, a in -2147483647 0 2147483647, b >= -2147483647, b <= 2147483647, b in -2147483647 -1 2147483647, b != 0",
		"-2147483647 2147483647,2147483647 -2147483647,0 0":   "a >= -2147483647, a <= 2147483647, a in -2147483647 0 2147483647, b >= -2147483647, b <= 2147483647, b in -2147483647 0 2147483647, b == -1 * a + 0",
		"-2147483647 2147483647,2147483647 -2147483647,-1 -1": "a >= -2147483647, a <= 2147483647, a in -2147483647 -1 2147483647, a != 0, b >= -2147483647, b <= 2147483647, b in -2147483647 -1 2147483647, b != 0",
	} {
		l := table(rows)
		m := miner(t, len(l[0]), l)
		if got, want := m.Claims(1), claims(want); !sameClaims(got, want) {
			t.Errorf("%s: %v, not %v", rows, got, want)
		}
	}
}

// P8.2: no rows, and fewer than support.
func TestSupport(t *testing.T) {
	m := miner(t, 1, nil)
	for _, support := range []int{least, -1, 0, 1, 2} {
		if l := m.Claims(support); len(l) > 0 || m.Rows() != 0 {
			t.Error(support, l, m.Rows())
		}
	}
	m = miner(t, 1, table("4,4,4"))
	for support, want := range map[int]int{least: 1, -1: 1, 0: 1, 1: 1, 3: 1, 4: 0, math.MaxInt: 0} {
		if l := m.Claims(support); len(l) != want {
			t.Error(support, l)
		}
	}
	if m.Rows() != 3 {
		t.Error(m.Rows())
	}
}

// P8.2: the errors of New, Add, Merge and Follows; with one of them, nothing changes.
func TestMinerErrors(t *testing.T) {
	for vars, want := range map[int]api.Errno{least: api.ErrArg, -1: api.ErrArg, 0: api.ErrArg, 1: api.OK, 8: api.OK, 9: api.ErrLimit, math.MaxInt: api.ErrLimit} {
		if m, e := learn.New(vars); e != want || (m == nil) != (e != api.OK) {
			t.Errorf("New(%d): %v, error %d", vars, m, e)
		}
	}
	m := miner(t, 2, table("1 2"))
	for _, x := range []struct {
		row  []int64
		want api.Errno
	}{
		{nil, api.ErrArg}, {[]int64{1}, api.ErrArg}, {[]int64{1, 2, 3}, api.ErrArg}, {[]int64{top + 1}, api.ErrArg}, {[]int64{top + 1, 2}, api.ErrLimit}, {[]int64{1, -top - 1}, api.ErrLimit}, {[]int64{1, least}, api.ErrLimit},
	} {
		if e := m.Add(x.row); e != x.want {
			t.Errorf("Add(%v): error %d", x.row, e)
		}
	}
	for o, want := range map[*learn.Miner]api.Errno{nil: api.ErrNil, {}: api.ErrNil, miner(t, 1, table("7")): api.ErrArg, miner(t, 3, nil): api.ErrArg} {
		if e := m.Merge(o); e != want {
			t.Errorf("Merge: error %d, not %d", e, want)
		}
	}
	for _, x := range []struct {
		claim api.Invariant
		want  api.Errno
	}{{inv(api.ClLow, 2, 0, 0, 0), api.ErrArg}, {inv(api.ClEqual, 1, 0, 0, 0), api.ErrArg}, {inv(api.ClConst, 0, 0, top+1, 0), api.ErrLimit}, {inv(api.ClNone, 0, 0, 0, 0), api.ErrArg}} {
		if ok, e := m.Follows(x.claim); ok || e != x.want {
			t.Errorf("Follows(%v): %v, error %d", x.claim, ok, e)
		}
	}
	if l := m.Claims(1); m.Rows() != 1 || !sameClaims(l, claims("a == 1, b == 2")) {
		t.Error(m.Rows(), l)
	}
}

// P8.2, R3: miners that no function made.
func TestNilMiners(t *testing.T) {
	good := miner(t, 1, table("7"))
	copied := *good
	for _, m := range []*learn.Miner{nil, {}, &copied} {
		if e := m.Add([]int64{1}); e != api.ErrNil {
			t.Error(e)
		}
		if e := m.Add(nil); e != api.ErrNil {
			t.Error(e)
		}
		if e := m.Merge(good); e != api.ErrNil {
			t.Error(e)
		}
		if e := good.Merge(m); e != api.ErrNil {
			t.Error(e)
		}
		if ok, e := m.Follows(claim("a == 7")); ok || e != api.ErrNil {
			t.Error(ok, e)
		}
		if ok, e := m.Follows(api.Invariant{}); ok || e != api.ErrNil {
			t.Error(ok, e)
		}
		if n, l, c := m.Rows(), m.Claims(0), m.Copy(); n != 0 || l != nil || c != nil {
			t.Error(n, l, c)
		}
	}
	if l := good.Claims(1); good.Rows() != 1 || !sameClaims(l, claims("a == 7")) {
		t.Error(good.Rows(), l)
	}
}

// P8.2: without rows every valid claim follows.
func TestFollowsWithoutRows(t *testing.T) {
	m := miner(t, 3, nil)
	r := rand.New(rand.NewSource(4))
	for range 3000 {
		x := validClaim(r, 3)
		if ok, e := m.Follows(x); !ok || e != api.OK {
			t.Fatal(x, ok, e)
		}
	}
	for _, x := range m.Claims(0) {
		t.Error(x)
	}
}

// randomRows returns rows that are such that many claims are true of them.
func randomRows(r *rand.Rand, vars, count int) rows {
	base, step := int64(r.Intn(9)-4), []int64{1, 1, 2, 3, 6, 1000, 715827882}[r.Intn(7)]
	ways := make([]int, vars)
	for i := range ways {
		ways[i] = r.Intn(9)
	}
	var l rows
	for range count {
		row := make([]int64, vars)
		for i := range row {
			row[i] = base + step*int64(r.Intn(5)-2)
			switch other := row[r.Intn(i+1)]; ways[i] {
			case 0:
				row[i] = int64(r.Intn(3))
			case 1:
				row[i] = other
			case 2:
				row[i] = 2*other + 1
			case 3:
				row[i] = row[0] + int64(r.Intn(3))
			case 4:
				row[i] = 7 - row[0]
			case 5:
				row[i] = row[0] / 2
			case 6:
				row[i] = []int64{top, -top, 0, 1, top - 1}[r.Intn(5)]
			}
			row[i] = min(max(row[i], -top), top)
		}
		l = append(l, row)
	}
	return l
}

// checkMiner holds a miner against the rows that it should have.
func checkMiner(t *testing.T, r *rand.Rand, what string, m *learn.Miner, vars int, l rows) {
	t.Helper()
	if m.Rows() != len(l) {
		t.Fatalf("%s of %v: %d rows", what, l, m.Rows())
	}
	support := r.Intn(len(l) + 2)
	got := m.Claims(support)
	if want := l.claims(support); !sameClaims(got, want) {
		t.Fatalf("%s: Claims(%d) of %v: %v, not %v", what, support, l, got, want)
	}
	for _, x := range got {
		if ok, e := m.Follows(x); !ok || e != api.OK || checked(x, vars) != api.OK {
			t.Fatalf("%s: Follows(%v) of %v: %v, error %d", what, x, l, ok, e)
		}
	}
	near := func() int64 {
		if len(l) == 0 || r.Intn(3) == 0 {
			return int64(r.Intn(7) - 3)
		}
		return min(max(l[r.Intn(len(l))][r.Intn(vars)]+int64(r.Intn(3)-1), -top), top)
	}
	for range 12 {
		x := validClaim(r, vars)
		switch x.Kind {
		case api.ClConst, api.ClLow, api.ClHigh:
			x.K = near()
		case api.ClMod:
			x.M = []int64{2, 3, 6, 1000, 5}[r.Intn(5)]
			x.K = ((near() % x.M) + x.M) % x.M
		case api.ClOneOf:
			x.Set = []int64{near(), near(), near()}
			slices.Sort(x.Set)
			x.Set = slices.Compact(x.Set)
		case api.ClLinear:
			x.K = []int64{1, 2, -1, 0, 3}[r.Intn(5)]
			if len(l) > 0 {
				row := l[r.Intn(len(l))]
				x.M = row[x.B] - x.K*row[x.A]
			}
		}
		if checked(x, vars) != api.OK {
			continue
		}
		if ok, e := m.Follows(x); e != api.OK || ok != l.follows(x) {
			t.Fatalf("%s: Follows(%v) of %v: %v, error %d", what, x, l, ok, e)
		}
	}
}

// P8.2, P8.5: miners that are added to, merged, merged with themselves and copied, whatever the order, say of random rows what their section says.
func TestMinersAgainstModel(t *testing.T) {
	r := rand.New(rand.NewSource(5))
	kinds := map[api.Claim]int{}
	for range 5000 {
		vars := 1 + r.Intn(4)
		if r.Intn(50) == 0 {
			vars = api.MaxVars
		}
		l := randomRows(r, vars, []int{0, 1, 2, 3, 4, 6, 9, 14}[r.Intn(8)])
		m := miner(t, vars, l)
		checkMiner(t, r, "added", m, vars, l)
		for _, x := range m.Claims(0) {
			kinds[x.Kind]++
		}
		r.Shuffle(len(l), func(i, j int) { l[i], l[j] = l[j], l[i] })
		cut := r.Intn(len(l) + 1)
		a, b := miner(t, vars, l[:cut]), miner(t, vars, l[cut:])
		c := a.Copy()
		checkMiner(t, r, "copied", c, vars, l[:cut])
		if e := a.Merge(b); e != api.OK {
			t.Fatal(e)
		}
		checkMiner(t, r, "merged", a, vars, l)
		checkMiner(t, r, "the other one", b, vars, l[cut:])
		checkMiner(t, r, "the copy of the merged one", c, vars, l[:cut])
		if e := b.Merge(b); e != api.OK {
			t.Fatal(e)
		}
		checkMiner(t, r, "with itself", b, vars, slices.Concat(l[cut:], l[cut:]))
		more := randomRows(r, vars, r.Intn(4))
		for _, row := range more {
			if e := c.Add(row); e != api.OK {
				t.Fatal(e)
			}
		}
		checkMiner(t, r, "the copy with more", c, vars, slices.Concat(l[:cut], more))
		checkMiner(t, r, "the merged one, later", a, vars, l)
	}
	for k := api.ClConst; k <= api.ClLinear; k++ {
		if kinds[k] < 100 {
			t.Errorf("kind %d: %d claims", k, kinds[k])
		}
	}
}

// P8.5: a claim that follows from rows and others follows from the rows alone.
func TestFewerRows(t *testing.T) {
	r := rand.New(rand.NewSource(6))
	for range 4000 {
		vars := 1 + r.Intn(4)
		l := randomRows(r, vars, 1+r.Intn(9))
		all, part := miner(t, vars, l), miner(t, vars, l[:r.Intn(len(l))])
		for _, x := range all.Claims(1) {
			if ok, e := part.Follows(x); !ok || e != api.OK {
				t.Fatalf("%v of %v: %v, error %d", x, l, ok, e)
			}
		}
	}
}

// P8.2, P0.1: a miner that is merged with itself again and again has more rows than a number can tell, and not none.
func TestManyRows(t *testing.T) {
	m := miner(t, 1, table("1,3"))
	for i := range 70 {
		if e := m.Merge(m); e != api.OK {
			t.Fatal(e)
		}
		if want := math.MaxInt; i < 61 && m.Rows() != 4<<i || i >= 61 && m.Rows() != want {
			t.Fatal(i, m.Rows())
		}
	}
	if e := m.Add([]int64{5}); e != api.OK || m.Rows() != math.MaxInt {
		t.Fatal(e, m.Rows())
	}
	if l := m.Claims(math.MaxInt); !sameClaims(l, claims("a >= 1, a <= 5, a in 1 3 5")) {
		t.Error(l)
	}
}

// P8.2, R4: what a miner returns is new memory, and a miner keeps nothing of a row.
func TestMinerMemory(t *testing.T) {
	m := miner(t, 2, nil)
	row := []int64{1, 2}
	for i := range int64(3) {
		row[0], row[1] = i, 2*i
		if e := m.Add(row); e != api.OK {
			t.Fatal(e)
		}
	}
	row[0], row[1] = 99, 99
	want := fmt.Sprint(m.Claims(1))
	for range 2 {
		l := m.Claims(1)
		if fmt.Sprint(l) != want {
			t.Fatal(l, want)
		}
		for _, x := range l {
			spoil(x.Set, 77)
		}
		spoil(l, api.Invariant{})
	}
}

// spoil overwrites all memory that a list has.
func spoil[T any](l []T, with T) {
	for i := range l[:cap(l)] {
		l[:cap(l)][i] = with
	}
}
