package lang_test

import (
	"math/rand"
	"slices"
	"strings"
	"testing"

	"sleuth/api"
	"sleuth/lang"
)

// grammarText is the grammar of the chapter, without brackets and braces: an alternative a line, its parts separated by blanks.
const grammarText = `
program =
program = program fun NAME ( names ) block
names =
names = some
some = NAME
some = some , NAME
block = { statements }
statements =
statements = statements statement
statement = let NAME = expr ;
statement = NAME = expr ;
statement = postfix [ expr ] = expr ;
statement = if expr block
statement = if expr block else block
statement = while expr block
statement = return expr ;
statement = throw expr ;
statement = try block catch NAME block
statement = join expr ;
statement = lock expr ;
statement = unlock expr ;
statement = print expr ;
statement = assert expr ;
statement = expr ;
expr = and
expr = expr | and
and = cmp
and = and & cmp
cmp = sum
cmp = sum == sum
cmp = sum != sum
cmp = sum < sum
cmp = sum <= sum
cmp = sum > sum
cmp = sum >= sum
sum = product
sum = sum + product
sum = sum - product
product = unary
product = product * unary
product = product / unary
product = product % unary
unary = postfix
unary = - unary
unary = ! unary
postfix = atom
postfix = postfix [ expr ]
postfix = postfix . ( args )
atom = NUMBER
atom = NAME
atom = NAME ( args )
atom = spawn NAME ( args )
atom = new ( expr )
atom = len ( expr )
atom = input
atom = clock
atom = fn ( names ) block
atom = ( expr )
args =
args = list
list = expr
list = list , expr`

// rules are the alternatives of each left side.
type rules map[string][][]string

func readRules() rules {
	g := rules{}
	for _, line := range strings.Split(strings.TrimSpace(grammarText), "\n") {
		left, right, _ := strings.Cut(line, " =")
		g[left] = append(g[left], strings.Fields(right))
	}
	return g
}

// item is an alternative of which some parts were seen, from a place on (Earley's).
type item struct {
	left        string
	alternative int
	seen, from  int
}

// misplaced returns the place of the first word with which no text of the grammar goes on, or -1 if the words are a text; words that end too early go wrong at their number.
func (g rules) misplaced(words []string) int {
	sets := make([][]item, len(words)+1)
	add := func(at int, x item) {
		if !slices.Contains(sets[at], x) {
			sets[at] = append(sets[at], x)
		}
	}
	for i := range g["program"] {
		add(0, item{"program", i, 0, 0})
	}
	for at := 0; at <= len(words); at++ {
		// Empty alternatives may end ahead of those that wait for them, hence again until nothing is new.
		for size := -1; size != len(sets[at]); {
			size = len(sets[at])
			for i := 0; i < len(sets[at]); i++ {
				g.advance(sets, add, at, sets[at][i], words)
			}
		}
		if at < len(words) && len(sets[at+1]) == 0 {
			return at
		}
	}
	for _, x := range sets[len(words)] {
		if x.left == "program" && x.from == 0 && x.seen == len(g[x.left][x.alternative]) {
			return -1
		}
	}
	return len(words)
}

func (g rules) advance(sets [][]item, add func(int, item), at int, x item, words []string) {
	parts := g[x.left][x.alternative]
	if x.seen == len(parts) {
		for _, y := range sets[x.from] {
			if p := g[y.left][y.alternative]; y.seen < len(p) && p[y.seen] == x.left {
				add(at, item{y.left, y.alternative, y.seen + 1, y.from})
			}
		}
		return
	}
	next := parts[x.seen]
	if g[next] == nil {
		if at < len(words) && class(words[at]) == next {
			add(at+1, item{x.left, x.alternative, x.seen + 1, x.from})
		}
		return
	}
	for i := range g[next] {
		add(at, item{next, i, 0, at})
	}
}

// class returns what a word is called in the grammar.
func class(w string) string {
	if lang.Name(w) {
		return "NAME"
	}
	if w[0] >= '0' && w[0] <= '9' {
		return "NUMBER"
	}
	return w
}

// derive appends words that the grammar makes of a symbol, with at most so many statements and atoms inside each other that are more than an expression and a name.
func (g rules) derive(r *rand.Rand, symbol string, deep int, words []string) []string {
	switch symbol {
	case "NAME":
		return append(words, []string{"a", "b", "main", "xY_9"}[r.Intn(4)])
	case "NUMBER":
		return append(words, []string{"0", "1", "42"}[r.Intn(3)])
	}
	if g[symbol] == nil {
		return append(words, symbol)
	}
	for _, part := range g.choose(r, symbol, deep) {
		if symbol == "statement" || symbol == "atom" {
			words = g.derive(r, part, deep-1, words)
		} else {
			words = g.derive(r, part, deep, words)
		}
	}
	return words
}

// choose returns an alternative; the first one ends a list, or leads on to what binds more tightly.
func (g rules) choose(r *rand.Rand, symbol string, deep int) []string {
	list := g[symbol]
	switch symbol {
	case "statement":
		if deep <= 0 {
			return list[len(list)-1]
		}
	case "atom":
		if deep <= 0 {
			return []string{"NAME"}
		}
	default:
		if r.Intn(3) > 0 {
			return list[0]
		}
	}
	return list[r.Intn(len(list))]
}

// P1.5: Parse goes wrong at the word at which the grammar, read by another algorithm, does.
func TestParseAgainstGrammar(t *testing.T) {
	g := readRules()
	r := rand.New(rand.NewSource(1))
	all := append(strings.Fields("+ - * / % == != < <= > >= & | ! = ( ) { } [ ] , ; . a b 0 7"), keywords...)
	wrong := 0
	for range 3000 {
		words := strings.Fields("fun main ( ) {")
		for range r.Intn(4) {
			words = g.derive(r, "statement", 1+r.Intn(4), words)
		}
		words = g.derive(r, "program", 3, append(words, "}"))
		if len(words) > 150 {
			continue
		}
		switch at := r.Intn(len(words) + 1); r.Intn(5) {
		case 0:
			words = slices.Insert(words, at, all[r.Intn(len(all))])
		case 1:
			words = words[:at]
		case 2:
			words = slices.Delete(words, at, min(at+1, len(words)))
		case 3:
			if at < len(words) {
				words[at] = all[r.Intn(len(all))]
			}
		}
		text := strings.Join(words, " ")
		want := g.misplaced(words)
		_, at, e := lang.Parse(text)
		if want < 0 {
			if e == api.ErrForm || at != 0 {
				t.Fatalf("%s: error %d at %d", text, e, at)
			}
			continue
		}
		wrong++
		place := len(strings.Join(words[:want], " "))
		if want > 0 && want < len(words) {
			place++
		}
		if e != api.ErrForm || at != place {
			t.Fatalf("%s: error %d at %d, want %d", text, e, at, place)
		}
	}
	if wrong < 500 {
		t.Fatal("too few texts that go wrong:", wrong)
	}
}
