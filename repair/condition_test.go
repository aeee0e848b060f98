package repair_test

import (
	"fmt"
	"math/rand"
	"slices"
	"strings"
	"testing"

	"sleuth/api"
	"sleuth/learn"
	"sleuth/machine"
	"sleuth/repair"
)

// conditionOf reads the expression for a claim from a text, as the chapter's table shows it.
func conditionOf(t *testing.T, x api.Invariant, l []string) api.Node {
	t.Helper()
	v, w := l[x.A], l[x.B]
	var text string
	switch x.Kind {
	case api.ClConst:
		text = fmt.Sprintf("%s == %d", v, x.K)
	case api.ClLow:
		text = fmt.Sprintf("%s >= %d", v, x.K)
	case api.ClHigh:
		text = fmt.Sprintf("%s <= %d", v, x.K)
	case api.ClOneOf:
		text = fmt.Sprintf("%s == %d | %s == %d", v, x.Set[0], v, x.Set[1])
		if len(x.Set) == 3 {
			text = fmt.Sprintf("(%s) | %s == %d", text, v, x.Set[2])
		}
	case api.ClNonzero:
		text = v + " != 0"
	case api.ClMod:
		text = fmt.Sprintf("(%s %% %d + %d) %% %d == %d", v, x.M, x.M, x.M, x.K)
	case api.ClEqual:
		text = v + " == " + w
	case api.ClNotEqual:
		text = v + " != " + w
	case api.ClLess:
		text = v + " < " + w
	case api.ClLessEq:
		text = v + " <= " + w
	case api.ClLinear:
		text = fmt.Sprintf("%s == %d * %s + %d", w, x.K, v, x.M)
	}
	return statements(t, text+";")[0].Subs[0]
}

// P9.3: conditions of claims of every kind, and of numbers at the limits of their range.
func TestCondition(t *testing.T) {
	for _, c := range []struct {
		x           api.Invariant
		names, want string
	}{
		{inv(api.ClConst, 0, 0, 7, 0), "x", "x == 7"}, {inv(api.ClConst, 1, 0, -7, 0), "x y", "y == -7"}, {inv(api.ClConst, 0, 0, 0, 0), "x y", "x == 0"}, {inv(api.ClConst, 0, 0, -top, 0), "x", "x == -2147483647"},
		{inv(api.ClOneOf, 0, 0, 0, 0, 3, 4), "x", "(x == 3) | (x == 4)"}, {inv(api.ClOneOf, 0, 0, 0, 0, -4, 0, 4), "x", "((x == -4) | (x == 0)) | (x == 4)"},
		{inv(api.ClLow, 0, 0, -1, 0), "x", "x >= -1"}, {inv(api.ClHigh, 0, 0, top, 0), "x", "x <= 2147483647"}, {inv(api.ClNonzero, 1, 0, 0, 0), "x y", "y != 0"},
		{inv(api.ClMod, 0, 0, 1, 3), "x", "(((x % 3) + 3) % 3) == 1"}, {inv(api.ClMod, 7, 0, 0, top), "a b c d e f g h", "(((h % 2147483647) + 2147483647) % 2147483647) == 0"},
		{inv(api.ClEqual, 0, 1, 0, 0), "x y", "x == y"}, {inv(api.ClNotEqual, 1, 2, 0, 0), "x y z", "y != z"}, {inv(api.ClLess, 2, 0, 0, 0), "x y z", "z < x"}, {inv(api.ClLessEq, 0, 2, 0, 0), "x y z", "x <= z"},
		{inv(api.ClLinear, 0, 1, 2, 3), "x y", "y == ((2 * x) + 3)"}, {inv(api.ClLinear, 1, 0, -2, -3), "x y", "x == ((-2 * y) + -3)"}, {inv(api.ClLinear, 0, 1, 0, 0), "x y", "y == ((0 * x) + 0)"},
	} {
		n, e := repair.Condition(c.x, names(c.names))
		if e != api.OK {
			t.Errorf("Condition(%v): error %d", c.x, e)
			continue
		}
		if s := expression(t, n); s != c.want || !sameNodes([]api.Node{n}, []api.Node{conditionOf(t, c.x, names(c.names))}) {
			t.Errorf("Condition(%v): %s, want %s", c.x, s, c.want)
		}
	}
}

// isNone reports whether a node is the zero value.
func isNone(n api.Node) bool { return sameNodes([]api.Node{n}, []api.Node{{}}) }

// P9.3: the errors of Condition are those of learn.Write.
func TestConditionErrors(t *testing.T) {
	nine := names("a b c d e f g h i")
	for i, c := range []struct {
		x     api.Invariant
		names []string
		want  api.Errno
	}{
		{inv(api.ClNonzero, 0, 0, 0, 0), names("x X"), api.ErrArg}, {inv(api.ClNonzero, 0, 0, 0, 0), []string{""}, api.ErrArg}, {inv(api.ClNonzero, 0, 0, 0, 0), names("x let"), api.ErrArg}, {inv(api.ClNonzero, 0, 0, 0, 0), names("x y x"), api.ErrArg}, {inv(api.ClLow, 0, 0, top+1, 0), names("x x"), api.ErrArg},
		{inv(api.ClNonzero, 0, 0, 0, 0), nil, api.ErrArg}, {inv(api.ClNonzero, 0, 0, 0, 0), nine, api.ErrLimit}, {inv(99, 9, 9, 0, 0), nine, api.ErrLimit}, {inv(api.ClNonzero, 0, 0, 0, 0), nine[1:], api.OK},
		{api.Invariant{}, names("x"), api.ErrArg}, {inv(12, 0, 0, 0, 0), names("x"), api.ErrArg}, {inv(api.ClNonzero, 1, 0, 0, 0), names("x"), api.ErrArg}, {inv(api.ClNonzero, -1, 0, 0, 0), names("x"), api.ErrArg}, {inv(api.ClNonzero, 0, 1, 0, 0), names("x y"), api.ErrArg}, {inv(api.ClEqual, 1, 0, 0, 0), names("x y"), api.ErrArg}, {inv(api.ClLess, 1, 1, 0, 0), names("x y"), api.ErrArg},
		{inv(api.ClLow, 0, 0, top+1, 0), names("x"), api.ErrLimit}, {inv(api.ClLow, 0, 0, least, 0), names("x"), api.ErrLimit}, {inv(api.ClMod, 0, 0, 0, top+1), names("x"), api.ErrLimit}, {inv(api.ClOneOf, 0, 0, 0, 0, 1, top+1), names("x"), api.ErrLimit},
		{inv(api.ClMod, 0, 0, 0, 1), names("x"), api.ErrArg}, {inv(api.ClMod, 0, 0, 3, 3), names("x"), api.ErrArg}, {inv(api.ClOneOf, 0, 0, 0, 0, 1), names("x"), api.ErrArg}, {inv(api.ClOneOf, 0, 0, 0, 0), names("x"), api.ErrArg}, {inv(api.ClOneOf, 0, 0, 0, 0, 2, 1), names("x"), api.ErrArg}, {inv(api.ClConst, 0, 0, 1, 0, 4), names("x"), api.ErrArg},
	} {
		if _, e := learn.Write(c.x, c.names); e != c.want {
			t.Errorf("Write, case %d: error %d, want %d", i, e, c.want)
		}
		if n, e := repair.Condition(c.x, c.names); e != c.want || e != api.OK && !isNone(n) {
			t.Errorf("Condition, case %d: %v, error %d, want %d", i, n, e, c.want)
		}
	}
}

// randomNumber returns a number of a sample, small or near a limit.
func randomNumber(r *rand.Rand) int64 {
	switch r.Intn(4) {
	case 0:
		return []int64{top, -top, top - 1, 1 - top, top / 2, 0}[r.Intn(6)]
	case 1:
		return r.Int63n(2*top+1) - top
	}
	return r.Int63n(9) - 4
}

// randomClaim returns a claim about so many variables, which may be one that is not allowed.
func randomClaim(r *rand.Rand, vars int) api.Invariant {
	x := api.Invariant{Kind: api.Claim(1 + r.Intn(11)), A: r.Intn(vars)}
	switch x.Kind {
	case api.ClConst, api.ClLow, api.ClHigh:
		x.K = randomNumber(r)
	case api.ClOneOf:
		for range 2 + r.Intn(2) {
			x.Set = append(x.Set, randomNumber(r))
		}
		slices.Sort(x.Set)
	case api.ClMod:
		x.M = []int64{2, 3, 4, 7, top, 2 + r.Int63n(top-1)}[r.Intn(6)]
		x.K = []int64{0, 1, x.M - 1, r.Int63n(x.M)}[r.Intn(4)]
	case api.ClLinear:
		x.B, x.K, x.M = r.Intn(vars), randomNumber(r), randomNumber(r)
	case api.ClEqual, api.ClNotEqual, api.ClLess, api.ClLessEq:
		x.B = r.Intn(vars)
	}
	return x
}

// P9.7: on the machine, the condition of a claim is not 0 just for the rows of which the claim is true.
func TestConditionsOnTheMachine(t *testing.T) {
	r := rand.New(rand.NewSource(4))
	held := map[api.Claim][2]int{}
	for range 6000 {
		vars := 1 + r.Intn(3)
		l, x := names("x y z")[:vars], randomClaim(r, vars)
		if learn.CheckClaim(x, vars) != api.OK {
			continue
		}
		n, e := repair.Condition(x, l)
		if e != api.OK || !sameNodes([]api.Node{n}, []api.Node{conditionOf(t, x, l)}) {
			t.Fatalf("Condition(%v): %v, error %d", x, n, e)
		}
		var start strings.Builder
		for _, s := range l {
			fmt.Fprintf(&start, "let %s = input; ", s)
		}
		p := body(t, start.String()+"print "+expression(t, n)+";")
		for range 6 {
			var row []int64
			for range vars {
				row = append(row, randomNumber(r))
			}
			switch b := x.B; { // close to what is claimed
			case x.Kind == api.ClLinear && r.Intn(2) == 0:
				if v := x.K*row[x.A] + x.M; -top <= v && v <= top {
					row[b] = v
				}
			case r.Intn(2) == 0 && len(x.Set) > 0:
				row[x.A] = x.Set[r.Intn(len(x.Set))]
			case r.Intn(2) == 0 && x.Kind == api.ClMod:
				row[x.A] = min(max(x.K-x.M*r.Int63n(2), -top), top)
			case r.Intn(2) == 0:
				row[b] = row[x.A]
			case r.Intn(2) == 0:
				row[x.A] = x.K
			}
			want, e := learn.Holds(x, row)
			o, f := machine.Run(p, given(row...), 200)
			if e != api.OK || f != api.OK || o.End != api.EnDone || (o.Out[0] != 0) != want {
				t.Fatalf("Condition(%v): %s prints %v for %v, want %v", x, expression(t, n), o, row, want)
			}
			count := held[x.Kind]
			count[map[bool]int{false: 0, true: 1}[want]]++
			held[x.Kind] = count
		}
	}
	for k := api.ClConst; k <= api.ClLinear; k++ {
		if held[k][0] < 50 || held[k][1] < 50 {
			t.Error("too few rows of kind", k, held[k])
		}
	}
}
