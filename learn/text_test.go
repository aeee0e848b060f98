package learn_test

import (
	"fmt"
	"math/rand"
	"slices"
	"strings"
	"testing"

	"sleuth/api"
	"sleuth/learn"
)

// P8.1: claims of every kind, written and read.
func TestTexts(t *testing.T) {
	l := names("x y zz")
	for text, x := range map[string]api.Invariant{
		"x == -4": inv(api.ClConst, 0, 0, -4, 0), "zz == 2147483647": inv(api.ClConst, 2, 0, top, 0),
		"y in -1 0 7": inv(api.ClOneOf, 1, 0, 0, 0, -1, 0, 7), "x in 3 4": inv(api.ClOneOf, 0, 0, 0, 0, 3, 4),
		"x >= 0": inv(api.ClLow, 0, 0, 0, 0), "zz >= -2147483647": inv(api.ClLow, 2, 0, -top, 0), "x <= -1": inv(api.ClHigh, 0, 0, -1, 0),
		"x != 0": inv(api.ClNonzero, 0, 0, 0, 0), "y % 4 == 1": inv(api.ClMod, 1, 0, 1, 4),
		"x == y": inv(api.ClEqual, 0, 1, 0, 0), "y != zz": inv(api.ClNotEqual, 1, 2, 0, 0),
		"x < y": inv(api.ClLess, 0, 1, 0, 0), "y < x": inv(api.ClLess, 1, 0, 0, 0), "zz <= x": inv(api.ClLessEq, 2, 0, 0, 0), "x <= zz": inv(api.ClLessEq, 0, 2, 0, 0),
		"y == -2 * x + 7": inv(api.ClLinear, 0, 1, -2, 7), "x == 3 * y + -1": inv(api.ClLinear, 1, 0, 3, -1), "zz == 0 * x + 0": inv(api.ClLinear, 0, 2, 0, 0),
	} {
		if s, e := learn.Write(x, l); e != api.OK || s != text {
			t.Errorf("Write(%v): %q, error %d", x, s, e)
		}
		if got, e := learn.Read(text, l); e != api.OK || !sameClaim(got, x) {
			t.Errorf("Read(%q): %v, error %d", text, got, e)
		}
	}
}

// P8.1: the errors of names, in Write and in Read.
func TestNames(t *testing.T) {
	many := names("a b c d e f g h i")
	x := inv(api.ClConst, 0, 0, 0, 0)
	for _, c := range []struct {
		names       []string
		claim       api.Invariant
		write, read api.Errno
	}{
		{nil, x, api.ErrArg, api.ErrArg}, {[]string{""}, x, api.ErrArg, api.ErrArg}, {names("a B"), x, api.ErrArg, api.ErrArg}, {names("a let"), x, api.ErrArg, api.ErrArg},
		{names("a b a"), x, api.ErrArg, api.ErrArg}, {[]string{"a", "b "}, x, api.ErrArg, api.ErrArg}, {names("a abcdefghijklmnopq"), x, api.ErrArg, api.ErrArg},
		{many, x, api.ErrLimit, api.ErrLimit}, {many, inv(99, 99, 0, 0, 0), api.ErrLimit, api.ErrLimit}, {append(names("b"), many...), x, api.ErrArg, api.ErrArg}, {append(many, "%"), x, api.ErrArg, api.ErrArg},
		{names("a"), x, api.OK, api.OK}, {many[:8], x, api.OK, api.OK}, {names("abcdefghijklmnop"), x, api.OK, api.ErrName},
		{names("b a"), inv(api.ClEqual, 1, 0, 0, 0), api.ErrArg, api.OK}, {names("a"), inv(api.ClLow, 1, 0, top+1, 0), api.ErrArg, api.OK}, {names("a"), inv(api.ClLow, 0, 0, top+1, 0), api.ErrLimit, api.OK},
	} {
		if s, e := learn.Write(c.claim, c.names); e != c.write || (e != api.OK) != (s == "") {
			t.Errorf("Write(%v, %q): %q, error %d, not %d", c.claim, c.names, s, e, c.write)
		}
		if got, e := learn.Read("a == 0", c.names); e != c.read || e != api.OK && !sameClaim(got, api.Invariant{}) {
			t.Errorf("Read(%q): %v, error %d, not %d", c.names, got, e, c.read)
		}
	}
}

// P8.1: texts that are no claim.
func TestReadRefuses(t *testing.T) {
	for text, want := range map[string]api.Errno{
		"": api.ErrName, " ": api.ErrName, "z": api.ErrName, "z == 1": api.ErrName, "let == 1": api.ErrName, "1 == x": api.ErrName, " x == 1": api.ErrName, "x\t== 1": api.ErrName, "x==1": api.ErrName, "xy == 1": api.ErrName,
		"x": api.ErrForm, "x ": api.ErrForm, "x  == 1": api.ErrForm, "x == 1 ": api.ErrForm, "x ==  1": api.ErrForm, "x == 1\n": api.ErrForm, "x == ": api.ErrForm, "x ==": api.ErrForm, "x = 1": api.ErrForm, "x == z": api.ErrForm,
		"x == 01": api.ErrForm, "x == -0": api.ErrForm, "x == +1": api.ErrForm, "x == 1_0": api.ErrForm, "x == 0x1": api.ErrForm, "x == 1.0": api.ErrForm, "x == --1": api.ErrForm, "x == -": api.ErrForm,
		"x == 2147483648": api.ErrForm, "x >= -2147483648": api.ErrForm, "x <= 99999999999999999999": api.ErrForm, "x == 4294967296": api.ErrForm, "x == 18446744073709551616": api.ErrForm,
		"x != 1": api.ErrForm, "x != 3": api.ErrForm, "x != -0": api.ErrForm, "x != 00": api.ErrForm, "x > 1": api.ErrForm, "x < 1": api.ErrForm, "x >= y": api.ErrForm, "x > y": api.ErrForm,
		"x in": api.ErrForm, "x in 1": api.ErrForm, "x in 1 1": api.ErrForm, "x in 2 1": api.ErrForm, "x in 1 2 3 4": api.ErrForm, "x in 1 2 y": api.ErrForm, "x in 1 02": api.ErrForm, "x in 1  2": api.ErrForm, "x in y": api.ErrForm, "x in 1 2147483648": api.ErrForm,
		"x % 1 == 0": api.ErrForm, "x % 0 == 0": api.ErrForm, "x % 4 == 4": api.ErrForm, "x % 4 == -1": api.ErrForm, "x % -4 == 1": api.ErrForm, "x % 4": api.ErrForm, "x % 4 == ": api.ErrForm, "x % 4 != 1": api.ErrForm, "x % 4 = 1": api.ErrForm, "x % y == 1": api.ErrForm, "x % 4 == y": api.ErrForm, "x % 4 == 1 1": api.ErrForm,
		"x == x": api.ErrForm, "y == x": api.ErrForm, "y != x": api.ErrForm, "x != x": api.ErrForm, "x < x": api.ErrForm, "y <= y": api.ErrForm, "x == y y": api.ErrForm, "x < y 1": api.ErrForm, "x == y * 2 + 1": api.ErrForm,
		"x == 2 * x + 1": api.ErrForm, "y == 2 * z + 1": api.ErrForm, "y == 2 * x": api.ErrForm, "y == 2 * x +": api.ErrForm, "y == 2 * x + 1 ": api.ErrForm, "y == 2 * x - 1": api.ErrForm, "y == 2 x + 1": api.ErrForm, "y == 2 + x * 1": api.ErrForm, "y == -0 * x + 1": api.ErrForm,
		"y >= 2 * x + 1": api.ErrForm, "y != 2 * x + 1": api.ErrForm, "y == 2147483648 * x + 1": api.ErrForm, "y == 2 * x + -2147483648": api.ErrForm, "y == 2 * 1 + 1": api.ErrForm, "y == 2 * x + x": api.ErrForm, "y % 2 == 2 * x + 1": api.ErrForm, "y % 4 == 1 * x + 0": api.ErrForm,
	} {
		if x, e := learn.Read(text, names("x y")); e != want || !sameClaim(x, api.Invariant{}) {
			t.Errorf("Read(%q): %v, error %d, not %d", text, x, e, want)
		}
	}
}

// told is the text of a claim in the words of the section.
func told(x api.Invariant, l []string) string {
	a, b := l[x.A], l[x.B]
	switch x.Kind {
	case api.ClConst:
		return fmt.Sprintf("%s == %d", a, x.K)
	case api.ClOneOf:
		return fmt.Sprintf("%s in %s", a, strings.Trim(fmt.Sprint(x.Set), "[]"))
	case api.ClLow:
		return fmt.Sprintf("%s >= %d", a, x.K)
	case api.ClHigh:
		return fmt.Sprintf("%s <= %d", a, x.K)
	case api.ClNonzero:
		return fmt.Sprintf("%s != 0", a)
	case api.ClMod:
		return fmt.Sprintf("%s %% %d == %d", a, x.M, x.K)
	case api.ClLinear:
		return fmt.Sprintf("%s == %d * %s + %d", b, x.K, a, x.M)
	}
	return fmt.Sprintf("%s %s %s", a, map[api.Claim]string{api.ClEqual: "==", api.ClNotEqual: "!=", api.ClLess: "<", api.ClLessEq: "<="}[x.Kind], b)
}

// P8.1, P8.5: what Write wrote is read as it was.
func TestWrittenIsRead(t *testing.T) {
	r := rand.New(rand.NewSource(2))
	for range 50000 {
		l := names("x a1 longlonglonglong b_ zZ")[:1+r.Intn(5)]
		x := validClaim(r, len(l))
		s, e := learn.Write(x, l)
		if e != api.OK || s != told(x, l) {
			t.Fatalf("Write(%v): %q, error %d", x, s, e)
		}
		if got, e := learn.Read(s, l); e != api.OK || !sameClaim(got, x) {
			t.Fatalf("Read(%q): %v, error %d", s, got, e)
		}
	}
}

// P8.1: of texts that are made of the words of claims, Read takes those that Write returns for some claim, and no others.
func TestReadAgainstModel(t *testing.T) {
	l := names("x y")
	texts := map[string]api.Invariant{}
	values := []int64{-1, 0, 1, 2, top}
	for kind := api.ClConst; kind <= api.ClLinear; kind++ {
		for i := range 4 {
			for _, k := range values {
				for _, m := range values {
					for _, last := range append(values, 3) {
						x := inv(kind, i&1, i>>1, k, m)
						if kind == api.ClOneOf {
							x = inv(kind, i&1, i>>1, 0, 0, k, m, last)
							if last == 3 {
								x.Set = x.Set[:2]
							}
						}
						if checked(x, 2) == api.OK {
							texts[told(x, l)] = x
						}
					}
				}
			}
		}
	}
	r := rand.New(rand.NewSource(3))
	words := strings.Fields("x y x y z == == != in >= <= < > % * + - -1 0 1 2 2147483647 01 -0 2147483648")
	forms := [][]string{{"x", "==", "1"}, {"x", "in", "0", "1", "2"}, {"y", "%", "2", "==", "1"}, {"x", "==", "y"}, {"y", "==", "2", "*", "x", "+", "1"}, {"x", "!=", "0"}, {"x", "<=", "y"}}
	fine := 0
	for range 200000 {
		var s []string
		if r.Intn(2) == 0 {
			s = slices.Clone(forms[r.Intn(len(forms))])
			for range 1 + r.Intn(2) {
				s[r.Intn(len(s))] = words[r.Intn(len(words))]
			}
		} else {
			for range 1 + r.Intn(7) {
				s = append(s, words[r.Intn(len(words))])
			}
		}
		text := strings.Join(s, " ")
		want, known := texts[text]
		e := api.OK
		switch {
		case !slices.Contains(l, s[0]):
			e = api.ErrName
		case !known:
			e = api.ErrForm
		default:
			fine++
		}
		if x, f := learn.Read(text, l); f != e || !sameClaim(x, want) {
			t.Fatalf("Read(%q): %v, error %d, not %v, error %d", text, x, f, want, e)
		}
	}
	if fine < 9000 {
		t.Error(fine)
	}
}
