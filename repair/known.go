package repair

import (
	"strconv"

	"sleuth/api"
)

// known is the programs that have come up: what each of them has in the place of something of the first one. Most are like that one nearly everywhere, so this is little to keep.
type known struct {
	base string
	seen map[string]bool
}

// knownBy returns a known program with its functions and nothing else.
func knownBy(p api.Program) *known {
	k := &known{string(spelled(p)), map[string]bool{}}
	k.isNew(p)
	return k
}

// isNew reports whether a program with the same functions has not come up, and notes it.
func (k *known) isNew(p api.Program) bool {
	text := string(spelled(p))
	ahead := common(len(k.base), len(text), func(i int) bool { return k.base[i] == text[i] })
	rest, own := k.base[ahead:], text[ahead:]
	behind := common(len(rest), len(own), func(i int) bool { return rest[len(rest)-1-i] == own[len(own)-1-i] })
	key := strconv.Itoa(ahead) + " " + strconv.Itoa(behind) + " " + own[:len(own)-behind]
	if k.seen[key] {
		return false
	}
	k.seen[key] = true
	return true
}

// common returns at how many places, from the first one on, two texts of some lengths are alike.
func common(a, b int, isAlike func(int) bool) int {
	n := 0
	for n < a && n < b && isAlike(n) {
		n++
	}
	return n
}

// spelled writes the bodies of a program: two programs with the same functions are the same just if the bytes are. (The written form has a limit.)
func spelled(p api.Program) []byte {
	var b []byte
	for _, f := range p.Funcs {
		b = spellList(b, f.Body)
	}
	return b
}

// spellList writes nodes. Each begins with its kind, a lower byte than any of a text, and a list ends with a byte that no text has.
func spellList(b []byte, l []api.Node) []byte {
	for _, n := range l {
		b = append(b, byte(n.Kind))
		b = append(b, n.Text...)
		b = strconv.AppendInt(append(b, ' '), n.Num, 10)
		for _, s := range n.Params {
			b = append(append(b, ' '), s...)
		}
		b = spellList(b, n.Subs)
		b = spellList(b, n.Body)
		b = spellList(b, n.Else)
	}
	return append(b, ';')
}
