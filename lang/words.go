package lang

import (
	"strconv"
	"strings"

	"sleuth/api"
)

type wordKind int

const (
	theEnd wordKind = iota // behind the last word
	aName
	aNumber
	aMark // or a keyword
)

// word is a word of a text, or its end.
type word struct {
	kind wordKind
	text string
	at   int
}

// misfit is what a text that goes wrong is left with: the place where it does.
type misfit struct{ at int }

// split returns the words of a text and its end; it panics with a misfit.
func split(text string) []word {
	var words []word
	at := blanks(text, 0)
	for at < len(text) {
		w := wordAt(text, at)
		if !isAllowed(w) {
			panic(misfit{at})
		}
		words = append(words, w)
		at = blanks(text, at+len(w.text))
	}
	return append(words, word{at: len(text)})
}

// blanks returns the first place, from at on, that is no blank and in no remark.
func blanks(text string, at int) int {
	for at < len(text) {
		switch text[at] {
		case ' ', '\t', '\n', '\r':
			at++
		case '#':
			end := strings.IndexByte(text[at:], '\n')
			if end < 0 {
				return len(text)
			}
			at += end
		default:
			return at
		}
	}
	return at
}

// wordAt returns the word that begins at a place; it has no text if none does.
func wordAt(text string, at int) word {
	rest := text[at:]
	switch {
	case beginsName(rest[0]):
		w := word{aName, rest[:nameLength(rest)], at}
		if isKeyword(w.text) {
			w.kind = aMark
		}
		return w
	case isDigit(rest[0]):
		end := 0
		for end < len(rest) && isDigit(rest[end]) {
			end++
		}
		return word{aNumber, rest[:end], at}
	}
	return word{aMark, rest[:markLength(rest)], at}
}

func markLength(s string) int {
	if len(s) >= 2 {
		switch s[:2] {
		case "==", "!=", "<=", ">=":
			return 2
		}
	}
	if strings.IndexByte("+-*/%<>&|!=(){}[],;.", s[0]) >= 0 {
		return 1
	}
	return 0
}

func isAllowed(w word) bool {
	switch w.kind {
	case aName:
		return len(w.text) <= api.MaxName
	case aNumber:
		_, err := strconv.ParseInt(w.text, 10, 64)
		return err == nil && (w.text == "0" || w.text[0] != '0')
	}
	return w.text != ""
}
