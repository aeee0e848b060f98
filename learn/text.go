package learn

import (
	"slices"
	"strconv"
	"strings"

	"sleuth/api"
	"sleuth/lang"
)

func number(n int64) string { return strconv.FormatInt(n, 10) }

// sentence writes words with a blank between two of them.
func sentence(words ...string) string { return strings.Join(words, " ") }

func (c constant) text(names []string) string { return sentence(names[c.a], "==", number(c.k)) }

func (c oneOf) text(names []string) string {
	words := []string{names[c.a], "in"}
	for _, n := range c.set {
		words = append(words, number(n))
	}
	return sentence(words...)
}

func (c low) text(names []string) string { return sentence(names[c.a], ">=", number(c.k)) }

func (c high) text(names []string) string { return sentence(names[c.a], "<=", number(c.k)) }

func (c nonzero) text(names []string) string { return sentence(names[c.a], "!=", "0") }

func (c modulo) text(names []string) string {
	return sentence(names[c.a], "%", number(c.m), "==", number(c.k))
}

func (c equal) text(names []string) string { return sentence(names[c.a], "==", names[c.b]) }

func (c notEqual) text(names []string) string { return sentence(names[c.a], "!=", names[c.b]) }

func (c less) text(names []string) string { return sentence(names[c.a], "<", names[c.b]) }

func (c lessEq) text(names []string) string { return sentence(names[c.a], "<=", names[c.b]) }

func (c linear) text(names []string) string {
	return sentence(names[c.b], "==", number(c.k), "*", names[c.a], "+", number(c.m))
}

// areNames reports whether all names are names, and no two of them are equal.
func areNames(names []string) bool {
	seen := map[string]bool{}
	for _, s := range names {
		if !lang.Name(s) || seen[s] {
			return false
		}
		seen[s] = true
	}
	return true
}

// Write returns the text of a claim: P8.1.
func Write(x api.Invariant, names []string) (string, api.Errno) {
	if !areNames(names) {
		return "", api.ErrArg
	}
	c, e := claimOf(x, len(names))
	if e != api.OK {
		return "", e
	}
	return c.text(names), api.OK
}

// Read returns the claim of a text: P8.1.
func Read(text string, names []string) (api.Invariant, api.Errno) {
	if !areNames(names) {
		return api.Invariant{}, api.ErrArg
	}
	if e := checkVars(len(names)); e != api.OK {
		return api.Invariant{}, e
	}
	words := strings.Split(text, " ")
	if !slices.Contains(names, words[0]) {
		return api.Invariant{}, api.ErrName
	}
	// The reader takes more texts for a claim than there are; only the claim's own one is written again as it was.
	r := reader{words, names}
	x := r.invariant()
	if again, e := Write(x, names); e != api.OK || again != text {
		return api.Invariant{}, api.ErrForm
	}
	return x, api.OK
}

// reader takes the words of a text one by one.
type reader struct{ words, names []string }

func (r *reader) isAtEnd() bool { return len(r.words) == 0 }

func (r *reader) isAtName() bool { return !r.isAtEnd() && slices.Contains(r.names, r.words[0]) }

// word takes a word; behind the last one, it is empty.
func (r *reader) word() string {
	if r.isAtEnd() {
		return ""
	}
	w := r.words[0]
	r.words = r.words[1:]
	return w
}

// number takes a word that should be a number.
func (r *reader) number() int64 {
	n, _ := strconv.ParseInt(r.word(), 10, 64)
	return n
}

// variable takes a word that should be a name.
func (r *reader) variable() int { return slices.Index(r.names, r.word()) }

// invariant takes all words of a claim, as far as it can make out what they claim.
func (r *reader) invariant() api.Invariant {
	x := api.Invariant{A: r.variable()}
	sign := r.word()
	if r.isAtName() {
		goto pair
	}
	switch sign {
	case "==":
		x.Kind = api.ClConst
		goto value
	case "in":
		x.Kind = api.ClOneOf
		goto element
	case ">=":
		x.Kind = api.ClLow
		goto value
	case "<=":
		x.Kind = api.ClHigh
		goto value
	case "!=":
		x.Kind = api.ClNonzero
		goto end
	case "%":
		x.Kind = api.ClMod
		x.M = r.number()
		r.word()
		goto value
	}
pair:
	x.Kind = comparison(sign)
	x.B = r.variable()
	goto end
element:
	if !r.isAtEnd() {
		x.Set = append(x.Set, r.number())
		goto element
	}
	goto end
value:
	x.K = r.number()
	if r.word() != "*" {
		goto end
	}
	// The text of a line begins with the variable to which it leads.
	x.Kind = api.ClLinear
	x.A, x.B = r.variable(), x.A
	r.word()
	x.M = r.number()
end:
	return x
}

// comparison returns the kind of claim that a sign between two names makes.
func comparison(sign string) api.Claim {
	switch sign {
	case "==":
		return api.ClEqual
	case "!=":
		return api.ClNotEqual
	case "<":
		return api.ClLess
	case "<=":
		return api.ClLessEq
	}
	return api.ClNone
}
