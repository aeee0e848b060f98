package lang_test

import (
	"testing"

	"sleuth/lang"
)

var keywords = []string{"fun", "let", "if", "else", "while", "return", "throw", "try", "catch", "spawn", "join", "lock", "unlock", "print", "assert", "new", "len", "input", "clock", "fn"}

// P1.1: names.
func TestName(t *testing.T) {
	for _, s := range []string{"a", "z", "aA", "zZ09_", "a_", "abcdefghijklmnop", "main", "funs", "fUn", "i", "lets", "fn1"} {
		if !lang.Name(s) {
			t.Errorf("%q is a name", s)
		}
	}
	for _, s := range []string{"", "A", "_", "_a", "0", "0a", "a b", " a", "a ", "a-", "abcdefghijklmnopq", "\xff", "a\xff", "a\x00", "ä", "aä", "`", "{", "a@", "a[", "a`", "a{", "a/", "a:"} {
		if lang.Name(s) {
			t.Errorf("%q is no name", s)
		}
	}
	for _, s := range keywords {
		if lang.Name(s) || !lang.Name(s+"_") {
			t.Errorf("%q is a keyword", s)
		}
	}
	for c := range 256 {
		first := c >= 'a' && c <= 'z'
		if lang.Name(string([]byte{byte(c)})) != first {
			t.Errorf("byte %d alone", c)
		}
		later := first || c >= 'A' && c <= 'Z' || c >= '0' && c <= '9' || c == '_'
		if lang.Name(string([]byte{'q', byte(c)})) != later {
			t.Errorf("byte %d behind a letter", c)
		}
	}
}

// P1.1: operators.
func TestOperator(t *testing.T) {
	for i, s := range []string{"+", "-", "*", "/", "%", "==", "!=", "<", "<=", ">", ">=", "&", "|"} {
		if got := lang.Operator(s); got != i {
			t.Errorf("%q: %d, want %d", s, got, i)
		}
	}
	for _, s := range []string{"", "=", "!", "&&", "||", "+ ", " +", "=>", "<>", "(", "a", "\xff"} {
		if got := lang.Operator(s); got != -1 {
			t.Errorf("%q: %d, want -1", s, got)
		}
	}
}
