package lang

import "sleuth/api"

var operators = [...]string{"+", "-", "*", "/", "%", "==", "!=", "<", "<=", ">", ">=", "&", "|"}

// Name reports whether a string is a name: P1.1.
func Name(s string) bool {
	if len(s) == 0 || len(s) > api.MaxName || !beginsName(s[0]) || isKeyword(s) {
		return false
	}
	return nameLength(s) == len(s)
}

// Operator returns the number of an operator, or -1: P1.1.
func Operator(s string) int {
	for i, o := range operators {
		if o == s {
			return i
		}
	}
	return -1
}

func isOperator(s string) bool { return Operator(s) >= 0 }

func isSign(s string) bool { return s == "-" || s == "!" }

func isEmpty(s string) bool { return s == "" }

func isKeyword(s string) bool {
	switch s {
	case "fun", "let", "if", "else", "while", "return", "throw", "try", "catch", "spawn",
		"join", "lock", "unlock", "print", "assert", "new", "len", "input", "clock", "fn":
		return true
	}
	return false
}

func beginsName(c byte) bool { return 'a' <= c && c <= 'z' }

func isDigit(c byte) bool { return '0' <= c && c <= '9' }

// nameLength returns how many of the first bytes may stand in a name.
func nameLength(s string) int {
	n := 0
	for n < len(s) && (beginsName(s[n]) || 'A' <= s[n] && s[n] <= 'Z' || isDigit(s[n]) || s[n] == '_') {
		n++
	}
	return n
}
