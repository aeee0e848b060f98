package learn_test

import (
	"math/big"
	"math/rand"
	"slices"
	"testing"

	"sleuth/api"
	"sleuth/learn"
)

// inv returns an invariant about the variables a and b with its numbers.
func inv(kind api.Claim, a, b int, k, m int64, set ...int64) api.Invariant {
	return api.Invariant{Kind: kind, A: a, B: b, K: k, M: m, Set: set}
}

// P8.1: claims of every kind that are valid, with the least and the greatest numbers.
func TestCheckClaimAccepts(t *testing.T) {
	for _, x := range []api.Invariant{
		inv(api.ClConst, 0, 0, 0, 0), inv(api.ClConst, 2, 0, top, 0), inv(api.ClConst, 1, 0, -top, 0),
		inv(api.ClOneOf, 1, 0, 0, 0, 1, 2), inv(api.ClOneOf, 0, 0, 0, 0, -top, 0, top),
		inv(api.ClLow, 0, 0, -top, 0), inv(api.ClHigh, 0, 0, top, 0), inv(api.ClNonzero, 2, 0, 0, 0),
		inv(api.ClMod, 0, 0, 0, 2), inv(api.ClMod, 0, 0, 1, 2), inv(api.ClMod, 2, 0, top-1, top),
		inv(api.ClEqual, 0, 1, 0, 0), inv(api.ClNotEqual, 1, 2, 0, 0),
		inv(api.ClLess, 0, 1, 0, 0), inv(api.ClLess, 2, 0, 0, 0), inv(api.ClLessEq, 1, 0, 0, 0), inv(api.ClLessEq, 0, 2, 0, 0),
		inv(api.ClLinear, 0, 1, -top, top), inv(api.ClLinear, 2, 1, 0, 0),
	} {
		if e := learn.CheckClaim(x, 3); e != api.OK {
			t.Errorf("%v: error %d", x, e)
		}
	}
	if e := learn.CheckClaim(inv(api.ClLinear, 7, 6, 1, 1), api.MaxVars); e != api.OK {
		t.Error(e)
	}
}

// P8.1: claims that are not valid.
func TestCheckClaimRefuses(t *testing.T) {
	for _, x := range []struct {
		claim api.Invariant
		vars  int
		want  api.Errno
	}{
		{inv(api.ClConst, 0, 0, 0, 0), 0, api.ErrArg}, {inv(api.ClConst, 0, 0, 0, 0), -1, api.ErrArg}, {inv(api.ClConst, 0, 0, 0, 0), least, api.ErrArg},
		{inv(api.ClConst, 0, 0, 0, 0), api.MaxVars + 1, api.ErrLimit}, {inv(api.ClNone, 9, 0, 0, 0), 1 << 40, api.ErrLimit},
		{inv(api.ClNone, 0, 0, 0, 0), 2, api.ErrArg}, {inv(api.ClLinear+1, 0, 1, 0, 0), 2, api.ErrArg}, {inv(255, 0, 1, 0, 0), 2, api.ErrArg},
		{inv(api.ClLow, 2, 0, 0, 0), 2, api.ErrArg}, {inv(api.ClLow, -1, 0, 0, 0), 2, api.ErrArg}, {inv(api.ClLow, least, 0, 0, 0), 2, api.ErrArg},
		{inv(api.ClLess, 0, 2, 0, 0), 2, api.ErrArg}, {inv(api.ClLess, 0, -1, 0, 0), 2, api.ErrArg}, {inv(api.ClLinear, 2, 0, 0, 0), 2, api.ErrArg},
		{inv(api.ClEqual, 0, 0, 0, 0), 2, api.ErrArg}, {inv(api.ClEqual, 1, 0, 0, 0), 2, api.ErrArg}, {inv(api.ClNotEqual, 1, 1, 0, 0), 2, api.ErrArg},
		{inv(api.ClNotEqual, 1, 0, 0, 0), 2, api.ErrArg}, {inv(api.ClLess, 1, 1, 0, 0), 2, api.ErrArg}, {inv(api.ClLessEq, 0, 0, 0, 0), 2, api.ErrArg}, {inv(api.ClLinear, 1, 1, 2, 0), 2, api.ErrArg},
		{inv(api.ClConst, 0, 0, top+1, 0), 2, api.ErrLimit}, {inv(api.ClConst, 0, 0, -top-1, 0), 2, api.ErrLimit}, {inv(api.ClLow, 0, 0, least, 0), 2, api.ErrLimit},
		{inv(api.ClLinear, 0, 1, 0, top+1), 2, api.ErrLimit}, {inv(api.ClLinear, 0, 1, -top-1, 0), 2, api.ErrLimit}, {inv(api.ClMod, 0, 0, 0, top+1), 2, api.ErrLimit},
		{inv(api.ClOneOf, 0, 0, 0, 0, 1, top+1), 2, api.ErrLimit}, {inv(api.ClOneOf, 0, 0, 0, 0, -top-1, 1), 2, api.ErrLimit},
		{inv(api.ClOneOf, 0, 0, 0, 0), 2, api.ErrArg}, {inv(api.ClOneOf, 0, 0, 0, 0, 1), 2, api.ErrArg}, {inv(api.ClOneOf, 0, 0, 0, 0, 1, 2, 3, 4), 2, api.ErrArg},
		{inv(api.ClOneOf, 0, 0, 0, 0, 1, 1), 2, api.ErrArg}, {inv(api.ClOneOf, 0, 0, 0, 0, 1, 3, 2), 2, api.ErrArg}, {inv(api.ClOneOf, 0, 0, 0, 0, 2, 1, 3), 2, api.ErrArg},
		{inv(api.ClMod, 0, 0, 0, 1), 2, api.ErrArg}, {inv(api.ClMod, 0, 0, 0, 0), 2, api.ErrArg}, {inv(api.ClMod, 0, 0, 0, -2), 2, api.ErrArg},
		{inv(api.ClMod, 0, 0, 2, 2), 2, api.ErrArg}, {inv(api.ClMod, 0, 0, -1, 2), 2, api.ErrArg},
		// fields that do not belong to the kind
		{inv(api.ClConst, 0, 1, 0, 0), 2, api.ErrArg}, {inv(api.ClConst, 0, -1, 0, 0), 2, api.ErrArg}, {inv(api.ClConst, 0, 0, 0, 1), 2, api.ErrArg}, {inv(api.ClConst, 0, 0, 0, 0, 0), 2, api.ErrArg},
		{inv(api.ClOneOf, 0, 0, 1, 0, 1, 2), 2, api.ErrArg}, {inv(api.ClOneOf, 0, 0, 0, 1, 1, 2), 2, api.ErrArg}, {inv(api.ClOneOf, 0, 1, 0, 0, 1, 2), 2, api.ErrArg},
		{inv(api.ClLow, 0, 0, 0, 1), 2, api.ErrArg}, {inv(api.ClHigh, 0, 1, 0, 0), 2, api.ErrArg}, {inv(api.ClNonzero, 0, 0, 1, 0), 2, api.ErrArg}, {inv(api.ClNonzero, 0, 7, 0, 0), 2, api.ErrArg},
		{inv(api.ClMod, 0, 1, 0, 2), 2, api.ErrArg}, {inv(api.ClMod, 0, 0, 0, 2, 1, 2), 2, api.ErrArg}, {inv(api.ClEqual, 0, 1, 1, 0), 2, api.ErrArg}, {inv(api.ClNotEqual, 0, 1, 0, 1), 2, api.ErrArg},
		{inv(api.ClLess, 0, 1, 0, 0, 5), 2, api.ErrArg}, {inv(api.ClLessEq, 0, 1, 2, 0), 2, api.ErrArg}, {inv(api.ClLinear, 0, 1, 2, 0, 1, 2), 2, api.ErrArg},
		// which error is told first: the variables, then numbers out of range (of any field), then all else
		{inv(api.ClEqual, 1, 0, top+1, 0), 2, api.ErrArg}, {inv(api.ClNone, 0, 0, top+1, 0), 2, api.ErrArg}, {inv(api.ClLow, 0, 1, top+1, 0), 2, api.ErrLimit},
		{inv(api.ClLow, 0, 0, 0, top+1), 2, api.ErrLimit}, {inv(api.ClNonzero, 0, 0, least, 0), 2, api.ErrLimit}, {inv(api.ClLess, 0, 1, 0, 0, top+1), 2, api.ErrLimit},
		{inv(api.ClMod, 0, 0, top+1, 0), 2, api.ErrLimit}, {inv(api.ClOneOf, 0, 0, 0, 0, 2, 1, top+1), 2, api.ErrLimit}, {inv(api.ClOneOf, 0, 0, 0, -top-1, 1, 2), 2, api.ErrLimit},
	} {
		if e := learn.CheckClaim(x.claim, x.vars); e != x.want {
			t.Errorf("%v of %d: error %d, not %d", x.claim, x.vars, e, x.want)
		}
	}
}

// checked is CheckClaim in the words of its section.
func checked(x api.Invariant, vars int) api.Errno {
	fields, known := map[api.Claim]string{
		api.ClConst: "AK", api.ClOneOf: "AS", api.ClLow: "AK", api.ClHigh: "AK", api.ClNonzero: "A", api.ClMod: "AMK",
		api.ClEqual: "AB<", api.ClNotEqual: "AB<", api.ClLess: "AB", api.ClLessEq: "AB", api.ClLinear: "ABKM",
	}[x.Kind]
	has := func(field rune) bool { return slices.Contains([]rune(fields), field) }
	inside := func(v int) bool { return 0 <= v && v < vars }
	beyond := func(n int64) bool { return n < -top || n > top }
	switch {
	case vars < 1:
		return api.ErrArg
	case vars > api.MaxVars:
		return api.ErrLimit
	case !known || !inside(x.A) || has('B') && (!inside(x.B) || x.A == x.B) || has('<') && x.A > x.B:
		return api.ErrArg
	case beyond(x.K) || beyond(x.M) || slices.ContainsFunc(x.Set, beyond):
		return api.ErrLimit
	case has('S') && (len(x.Set) < 2 || len(x.Set) > 3 || !slices.IsSorted(x.Set) || len(slices.Compact(slices.Clone(x.Set))) < len(x.Set)):
		return api.ErrArg
	case x.Kind == api.ClMod && (x.M < 2 || x.K < 0 || x.K >= x.M):
		return api.ErrArg
	case !has('B') && x.B != 0 || !has('K') && x.K != 0 || !has('M') && x.M != 0 || !has('S') && len(x.Set) > 0:
		return api.ErrArg
	}
	return api.OK
}

// holds is whether a valid claim is true of a row, in numbers of any size.
func holds(x api.Invariant, row []int64) bool {
	wide := big.NewInt
	a, b := wide(row[x.A]), wide(row[x.B])
	switch x.Kind {
	case api.ClConst:
		return a.Cmp(wide(x.K)) == 0
	case api.ClOneOf:
		return slices.ContainsFunc(x.Set, func(n int64) bool { return a.Cmp(wide(n)) == 0 })
	case api.ClLow:
		return a.Cmp(wide(x.K)) >= 0
	case api.ClHigh:
		return a.Cmp(wide(x.K)) <= 0
	case api.ClNonzero:
		return a.Sign() != 0
	case api.ClMod:
		return new(big.Int).Mod(a, wide(x.M)).Cmp(wide(x.K)) == 0
	case api.ClEqual:
		return a.Cmp(b) == 0
	case api.ClNotEqual:
		return a.Cmp(b) != 0
	case api.ClLess:
		return a.Cmp(b) < 0
	case api.ClLessEq:
		return a.Cmp(b) <= 0
	}
	to := new(big.Int).Mul(wide(x.K), a)
	return to.Add(to, wide(x.M)).Cmp(b) == 0
}

// randomNumber returns a number, mostly a small one, sometimes one at the edge of what is allowed, or beyond it.
func randomNumber(r *rand.Rand) int64 {
	switch r.Intn(12) {
	case 0:
		return []int64{top, -top, top - 1, 1 - top, top / 2}[r.Intn(5)]
	case 1:
		return []int64{top, -top, top + 1, -top - 1, least, 1<<63 - 1}[r.Intn(6)]
	}
	return int64(r.Intn(9) - 4)
}

// randomClaim returns an invariant, valid or not.
func randomClaim(r *rand.Rand, vars int) api.Invariant {
	x := api.Invariant{Kind: api.Claim(r.Intn(14)), A: r.Intn(vars), B: r.Intn(vars), K: randomNumber(r), M: randomNumber(r)}
	for range r.Intn(5) {
		x.Set = append(x.Set, randomNumber(r))
	}
	if r.Intn(2) == 0 {
		slices.Sort(x.Set)
	}
	// Most of them are valid but for the numbers.
	for _, f := range []struct {
		kinds []api.Claim
		clear func()
	}{
		{[]api.Claim{api.ClEqual, api.ClNotEqual, api.ClLess, api.ClLessEq, api.ClLinear}, func() { x.B = 0 }},
		{[]api.Claim{api.ClConst, api.ClLow, api.ClHigh, api.ClMod, api.ClLinear}, func() { x.K = 0 }},
		{[]api.Claim{api.ClMod, api.ClLinear}, func() { x.M = 0 }},
		{[]api.Claim{api.ClOneOf}, func() { x.Set = nil }},
	} {
		if !slices.Contains(f.kinds, x.Kind) && r.Intn(30) > 0 {
			f.clear()
		}
	}
	return x
}

// validClaim returns a random claim that is valid.
func validClaim(r *rand.Rand, vars int) api.Invariant {
	for {
		if x := randomClaim(r, vars); checked(x, vars) == api.OK {
			return x
		}
	}
}

// P8.1: CheckClaim and Holds say what their sections say, for random invariants and rows.
func TestClaimsAgainstModel(t *testing.T) {
	r := rand.New(rand.NewSource(1))
	seen := map[api.Claim][2]int{}
	for range 300000 {
		vars := 1 + r.Intn(4)
		x := randomClaim(r, vars+r.Intn(9)/8)
		want := checked(x, vars)
		if e := learn.CheckClaim(x, vars); e != want {
			t.Fatalf("CheckClaim(%v, %d): error %d, not %d", x, vars, e, want)
		}
		row := make([]int64, vars)
		for i := range row {
			row[i] = randomNumber(r)
		}
		if want == api.OK && x.Kind == api.ClLinear && row[x.A] == int64(int32(row[x.A])) && r.Intn(2) == 0 {
			row[x.B] = x.K*row[x.A] + x.M
		}
		beyond := slices.ContainsFunc(row, func(n int64) bool { return n < -top || n > top })
		ok, e := learn.Holds(x, row)
		switch {
		case want == api.OK && beyond:
			want = api.ErrLimit
		case want == api.OK:
			is := holds(x, row)
			if ok != is {
				t.Fatalf("Holds(%v, %v): %v", x, row, ok)
			}
			n := seen[x.Kind]
			if is {
				n[0]++
			} else {
				n[1]++
			}
			seen[x.Kind] = n
		}
		if e != want || e != api.OK && ok {
			t.Fatalf("Holds(%v, %v): %v, error %d, not %d", x, row, ok, e, want)
		}
	}
	for k := api.ClConst; k <= api.ClLinear; k++ {
		if n := seen[k]; n[0] < 20 || n[1] < 20 {
			t.Errorf("kind %d: %d are true, and %d are not", k, n[0], n[1])
		}
	}
}

// P8.1: claims of every kind, of rows for which they are just true, or just not.
func TestHolds(t *testing.T) {
	for _, x := range []struct {
		claim string
		row   string
		want  bool
	}{
		{"a == 4", "4", true}, {"a == 4", "5", false}, {"b in -1 0 7", "9 0", true}, {"b in -1 0 7", "0 1", false}, {"a in 2 4", "3", false},
		{"a >= -3", "-3", true}, {"a >= -3", "-4", false}, {"a <= 9", "9", true}, {"a <= 9", "10", false},
		{"a != 0", "0", false}, {"a != 0", "-1", true}, {"a % 4 == 1", "-3", true}, {"a % 4 == 3", "-3", false}, {"a % 2 == 0", "0", true}, {"a % 7 == 6", "-1", true}, {"a % 7 == 0", "-7", true},
		{"a == b", "3 3", true}, {"a == b", "3 4", false}, {"a != b", "3 3", false}, {"a != c", "3 3 4", true},
		{"a < b", "3 4", true}, {"a < b", "4 4", false}, {"b < a", "3 4", false}, {"b < a", "4 3", true}, {"a <= b", "4 4", true}, {"a <= b", "5 4", false}, {"b <= a", "5 4", true},
		{"b == 2 * a + 1", "3 7", true}, {"b == 2 * a + 1", "7 3", false}, {"a == 2 * b + 1", "7 3", true}, {"b == 0 * a + 5", "77 5", true},
		{"b == 2147483647 * a + -2147483647", "1 0", true}, {"b == 2147483647 * a + 1", "2147483647 2", false}, {"b == -2147483647 * a + 2147483647", "2 -2147483647", true},
		{"a == -2147483647", "-2147483647", true}, {"a % 2147483647 == 2147483646", "-1", true},
	} {
		if ok, e := learn.Holds(claim(x.claim), numbers(x.row)); e != api.OK || ok != x.want {
			t.Errorf("%s of %s: %v, error %d", x.claim, x.row, ok, e)
		}
	}
}

// P8.1: the errors of Holds, and which one is told first.
func TestHoldsErrors(t *testing.T) {
	for _, x := range []struct {
		claim api.Invariant
		row   []int64
		want  api.Errno
	}{
		{inv(api.ClConst, 0, 0, 0, 0), nil, api.ErrArg}, {inv(api.ClConst, 0, 0, 0, 0), make([]int64, api.MaxVars+1), api.ErrLimit},
		{inv(api.ClConst, 1, 0, 0, 0), []int64{0}, api.ErrArg}, {inv(api.ClConst, 1, 0, 0, 0), []int64{top + 1}, api.ErrArg}, {inv(api.ClMod, 0, 0, 5, 1), []int64{top + 1}, api.ErrArg},
		{inv(api.ClConst, 0, 0, 0, 0), []int64{0, top + 1}, api.ErrLimit}, {inv(api.ClConst, 0, 0, 0, 0), []int64{-top - 1}, api.ErrLimit}, {inv(api.ClConst, 0, 0, 0, 0), []int64{0, 0, least}, api.ErrLimit},
		{inv(api.ClHigh, 0, 0, top, 0), []int64{top, -top}, api.OK},
	} {
		if ok, e := learn.Holds(x.claim, x.row); e != x.want || ok != (x.want == api.OK) {
			t.Errorf("%v of %v: %v, error %d", x.claim, x.row, ok, e)
		}
	}
}

// P8.1: the first row and its first claim, and errors only up to there.
func TestFirst(t *testing.T) {
	wrong := inv(api.ClConst, 5, 0, 0, 0)
	for _, x := range []struct {
		claims []api.Invariant
		rows   [][]int64
		row, n int
		e      api.Errno
	}{
		{claims("a >= 0, a <= 2"), table("1,3,-1"), 1, 1, api.OK}, {claims("a >= 0, a <= 2"), table("1,0,2"), -1, -1, api.OK}, {claims("a <= 2, a >= 0"), table("-1,3"), 0, 1, api.OK},
		{nil, table("1,3"), -1, -1, api.OK}, {nil, [][]int64{nil, {top + 1}}, -1, -1, api.OK}, {claims("a == 1"), nil, -1, -1, api.OK}, {[]api.Invariant{wrong}, nil, -1, -1, api.OK},
		{[]api.Invariant{wrong}, table("1"), 0, 0, api.ErrArg}, {append(claims("a == 2"), wrong), table("2,2"), 0, 0, api.ErrArg}, {append(claims("a == 2"), wrong), table("1,2"), 0, 0, api.OK},
		{claims("b == 2"), table("1 2, 1, 1 3"), 0, 0, api.ErrArg}, {claims("b == 2"), table("1 3, 1, 1 2"), 0, 0, api.OK}, {claims("a == 2"), [][]int64{{2}, {2, top + 1}, {3}}, 0, 0, api.ErrLimit},
		{claims("a == 2"), [][]int64{{2}, {3, 0}, {2, top + 1}}, 1, 0, api.OK}, {claims("a == 2"), [][]int64{{2}, nil}, 0, 0, api.ErrArg}, {claims("a == 2"), [][]int64{make([]int64, 9)}, 0, 0, api.ErrLimit},
	} {
		if row, n, e := learn.First(x.claims, x.rows); row != x.row || n != x.n || e != x.e {
			t.Errorf("%v of %v: %d, %d, error %d", x.claims, x.rows, row, n, e)
		}
	}
}
