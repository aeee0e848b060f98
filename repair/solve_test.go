package repair_test

import (
	"fmt"
	"math/rand"
	"slices"
	"testing"

	"sleuth/api"
	"sleuth/machine"
	"sleuth/repair"
)

// solved returns the expression that Solve finds, or a dash.
func solved(t *testing.T, l []string, rows [][]int64, want []int64, size int) string {
	t.Helper()
	n, found, e := repair.Solve(l, rows, want, size)
	if e != api.OK || !found && !isNone(n) {
		t.Fatalf("Solve(%v; %v; %v; %d): %v, error %d", l, rows, want, size, n, e)
	}
	if !found {
		return "-"
	}
	return expression(t, n)
}

// P9.3: what is solved, worked out by hand.
func TestSolve(t *testing.T) {
	for _, c := range []struct {
		names, rows, wants string
		size               int
		want               string
	}{
		{"x y", "1 2, 3 5", "3 8", 3, "x + y"},
		{"x y", "1 2, 3 5", "3 8", 1, "-"}, {"x y", "1 2, 3 5", "3 8", 2, "-"}, {"x y", "1 2, 3 5", "3 8", 4, "x + y"},
		// the expressions of one node: the names, then 0, 1 and 2
		{"", "", "", 1, "0"}, {"x", "", "", 5, "x"}, {"x y", "", "", 1, "x"}, {"x y", "4 4", "4", 1, "x"}, {"x y", "4 5", "5", 1, "y"}, {"x", "0", "0", 5, "x"}, {"x", "1, 2", "0 0", 1, "0"}, {"x", "3", "1", 1, "1"}, {"x", "3", "2", 5, "2"}, {"x", "4", "3", 1, "-"},
		// those of three: by the operator, then by the first operand, then by the second one
		{"x", "4", "5", 3, "x + 1"}, {"x", "2, 5", "4 10", 3, "x + x"}, {"x", "4, 5", "3 4", 3, "x - 1"}, {"x", "4, 5", "-4 -5", 3, "0 - x"}, {"x", "4, 5", "16 25", 3, "x * x"}, {"x", "4, 6", "2 3", 3, "x / 2"}, {"x", "4, 5", "0 1", 3, "x % 2"}, {"x", "3", "4", 3, "x + 1"}, {"x y", "7 3, 9 4", "1 1", 3, "1"},
		{"x", "2, 3", "1 0", 3, "2 / x"}, {"x", "1, 2, 0", "0 1 0", 3, "x / 2"}, {"x y", "1 1, 1 2, 2 1", "1 0 0", 3, "x == y"}, {"x y", "1 1, 1 2, 2 1", "0 1 1", 3, "x != y"}, {"x y", "1 1, 1 2, 2 1, 5 9, 9 5", "0 1 0 1 0", 3, "x < y"}, {"x y", "1 1, 1 2, 2 1, 5 9, 9 5", "1 1 0 1 0", 3, "x <= y"}, {"x y", "1 1, 1 2, 2 1, 5 9, 9 5", "0 0 1 0 1", 3, "y < x"}, {"x y", "1 1, 1 2, 2 1, 5 9, 9 5", "1 0 1 0 1", 3, "y <= x"}, {"x y", "0 5, 5 0, 5 5, 0 0", "0 0 1 0", 3, "x & y"}, {"x y", "0 5, 5 0, 5 5, 0 0", "1 1 1 0", 3, "x | y"},
		// those of five: one node ahead of three comes first
		{"x", "3, 5", "9 15", 5, "x + (x + x)"}, {"x", "3, 5", "9 15", 4, "-"}, {"x", "3, 5", "10 26", 5, "1 + (x * x)"}, {"x", "3, 5", "8 24", 5, "(x * x) - 1"}, {"x y", "10 3, 20 7", "400 7", 5, "-"},
		{"x", "7, 8", "3 4", 3, "x / 2"}, {"x", "10, 7, -3", "5 4 -1", 5, "(x + 1) / 2"},
		// nothing fits rows that contradict one another
		{"x", "2, 2", "4 5", 5, "-"}, {"", ",", "4 5", 5, "-"}, {"", ",", "1 1", 5, "1"}, {"", "", "", 3, "0"},
		// a fault does not fit, whatever stands around it
		{"x", "0, 5, 4, -2", "0 1 1 0", 3, "0 < x"}, {"x", "0", "99", 5, "-"}, {"x", "0, 3", "1 0", 5, "x == 0"}, {"x", "0, 3", "0 5", 5, "-"}, {"x", "0, 3", "0 -2", 5, "(x / 2) - x"}, {"x", "0, 1", "0 4", 5, "x * (2 + 2)"}, {"x", "0, 2", "0 3", 5, "x + (x / 2)"},
		// numbers wrap around
		{"x", "9223372036854775807", "-9223372036854775808", 3, "x + 1"}, {"x", "-9223372036854775808", "9223372036854775807", 3, "x - 1"}, {"x", "-9223372036854775808, 1", "-9223372036854775808 -1", 3, "0 - x"}, {"x y", "-9223372036854775808 -1", "0", 3, "0"}, {"x y", "-9223372036854775808 -1, 7 2", "-9223372036854775808 3", 3, "x / y"}, {"x y", "-9223372036854775808 -1, 7 4", "0 3", 3, "x % y"}, {"x y", "-7 4, 7 -4, 9 8", "-3 3 1", 3, "x % y"}, {"x y", "-7 2, 7 -2", "-3 -3", 3, "x / y"}, {"x", "4294967296, 3", "0 9", 3, "x * x"},
	} {
		if s := solved(t, names(c.names), table(c.rows), wide(c.wants), c.size); s != c.want {
			t.Errorf("Solve(%s; %s; %s; %d): %s, want %s", c.names, c.rows, c.wants, c.size, s, c.want)
		}
	}
}

// P9.3: the errors of Solve, and which one is told first.
func TestSolveErrors(t *testing.T) {
	nine := names("a b c d e f g h i")
	for i, c := range []struct {
		names []string
		rows  [][]int64
		want  []int64
		size  int
		e     api.Errno
	}{
		{names("x X"), table("1"), nil, 0, api.ErrArg}, {[]string{""}, table("1"), []int64{1}, 1, api.ErrArg}, {names("x let"), nil, nil, 1, api.ErrArg}, {names("x y x"), nil, nil, 6, api.ErrArg}, {append(nine, "a"), nil, nil, 0, api.ErrArg}, {append(nine, "While"), nil, nil, 0, api.ErrArg},
		{nine, table("1"), nil, 0, api.ErrLimit}, {nine, nil, nil, 1, api.ErrLimit}, {nine[1:], nil, nil, 1, api.OK}, {nine[1:], table("1 2 3 4 5 6 7 8"), []int64{8}, 1, api.OK},
		{names("x"), table("1"), nil, 6, api.ErrArg}, {names("x"), nil, []int64{1}, 6, api.ErrArg}, {names("x"), table("1, 2"), []int64{1}, 6, api.ErrArg}, {names("x"), table("1, 2 3"), []int64{1, 2}, 6, api.ErrArg}, {names("x y"), table("1 2, 3"), []int64{1, 2}, 6, api.ErrArg}, {nil, table("1"), []int64{1}, 6, api.ErrArg}, {names("x"), [][]int64{{1}, nil}, []int64{1, 2}, 6, api.ErrArg},
		{names("x"), nil, nil, 0, api.ErrArg}, {names("x"), nil, nil, -1, api.ErrArg}, {names("x"), nil, nil, least, api.ErrArg}, {names("x"), nil, nil, 6, api.ErrLimit}, {names("x"), nil, nil, greatest, api.ErrLimit}, {names("x"), nil, nil, 5, api.OK}, {names("x"), nil, nil, 1, api.OK},
		{nil, [][]int64{nil, {}}, []int64{9, 9}, 1, api.OK},
	} {
		if n, found, e := repair.Solve(c.names, c.rows, c.want, c.size); e != c.e || e != api.OK && (found || !isNone(n)) {
			t.Errorf("Solve, case %d: %v, %v, error %d, want %d", i, n, found, e, c.e)
		}
	}
}

// modelTerms returns all expressions of so many nodes, in their order.
func modelTerms(l []string, size int) []api.Node {
	var terms []api.Node
	if size == 1 {
		for _, s := range l {
			terms = append(terms, api.Node{Kind: api.KiName, Text: s})
		}
		return append(terms, api.Node{Kind: api.KiNum}, api.Node{Kind: api.KiNum, Num: 1}, api.Node{Kind: api.KiNum, Num: 2})
	}
	for _, split := range map[int][][2]int{3: {{1, 1}}, 5: {{1, 3}, {3, 1}}}[size] {
		for _, o := range names("+ - * / % == != < <= > >= & |") {
			for _, x := range modelTerms(l, split[0]) {
				for _, y := range modelTerms(l, split[1]) {
					terms = append(terms, api.Node{Kind: api.KiBinary, Text: o, Subs: []api.Node{x, y}})
				}
			}
		}
	}
	return terms
}

// modelValue returns the value of an expression for a row, and false if there is a fault.
func modelValue(n api.Node, l []string, row []int64) (int64, bool) {
	switch n.Kind {
	case api.KiNum:
		return n.Num, true
	case api.KiName:
		return row[slices.Index(l, n.Text)], true
	}
	x, ok := modelValue(n.Subs[0], l, row)
	y, also := modelValue(n.Subs[1], l, row)
	if !ok || !also || y == 0 && (n.Text == "/" || n.Text == "%") {
		return 0, false
	}
	truth := func(b bool) (int64, bool) { return map[bool]int64{true: 1}[b], true }
	switch n.Text {
	case "+":
		return x + y, true
	case "-":
		return x - y, true
	case "*":
		return x * y, true
	case "/":
		return x / y, true
	case "%":
		return x % y, true
	case "==":
		return truth(x == y)
	case "!=":
		return truth(x != y)
	case "<":
		return truth(x < y)
	case "<=":
		return truth(x <= y)
	case ">":
		return truth(x > y)
	case ">=":
		return truth(x >= y)
	case "&":
		return truth(x != 0 && y != 0)
	}
	return truth(x != 0 || y != 0)
}

// P9.7, P9.3: what is solved has the wanted values, on the machine too, and nothing ahead of it has.
func TestRandomSolve(t *testing.T) {
	r := rand.New(rand.NewSource(7))
	terms := map[int][]api.Node{}
	count := map[string]int{}
	for vars := range 3 {
		l := names("x y")[:vars]
		for size := 1; size <= 5; size += 2 {
			terms[vars] = append(terms[vars], modelTerms(l, size)...)
		}
		if n := 3 + vars; len(terms[vars]) != n+13*n*n+2*13*n*13*n*n {
			t.Fatal(len(terms[vars]))
		}
	}
	for range 1500 {
		vars, size := min(2, r.Intn(5)), min(5, 1+r.Intn(12))
		l := names("x y")[:vars]
		goal := terms[vars][r.Intn(len(terms[vars]))]
		for vars > 0 && !isBusy(goal) && r.Intn(8) > 0 {
			goal = terms[vars][r.Intn(len(terms[vars]))]
		}
		var rows [][]int64
		var want []int64
		for range r.Intn(8) {
			row := []int64{}
			for range vars {
				row = append(row, []int64{r.Int63n(9) - 3, r.Int63n(30), int64(r.Uint64()), least, greatest}[max(0, r.Intn(20)-15)])
			}
			v, ok := modelValue(goal, l, row)
			if r.Intn(60) == 0 || !ok {
				v = r.Int63n(7)
			}
			rows, want = append(rows, row), append(want, v)
		}
		expected := "-"
		for _, n := range terms[vars] {
			fits := func(i int) bool { v, ok := modelValue(n, l, rows[i]); return ok && v == want[i] }
			if !slices.ContainsFunc(until(len(rows)), func(i int) bool { return !fits(i) }) {
				if nodes(n) <= size {
					expected = expression(t, n)
					count[fmt.Sprint("of size ", nodes(n))]++
				}
				break
			}
		}
		if s := solved(t, l, rows, want, size); s != expected {
			t.Fatalf("Solve(%v; %v; %v; %d): %s, want %s", l, rows, want, size, s, expected)
		}
		if expected == "-" {
			count["none"]++
			continue
		}
		for i, row := range rows {
			text := ""
			for _, s := range l {
				text += "let " + s + " = input; "
			}
			if o, e := machine.Run(body(t, text+"print "+expected+";"), given(row...), 99); e != api.OK || !slices.Equal(o.Out, want[i:i+1]) {
				t.Fatalf("Solve(%v; %v; %v; %d): %s, but it prints %v", l, rows, want, size, expected, o)
			}
		}
	}
	for _, s := range []string{"none", "of size 1", "of size 3", "of size 5"} {
		if count[s] < 20 {
			t.Error("too few cases:", count)
		}
	}
}

// isBusy reports whether an expression of five nodes does nothing but arithmetic.
func isBusy(n api.Node) bool {
	return nodes(n) == 5 && !slices.ContainsFunc(append([]api.Node{n}, n.Subs...), func(x api.Node) bool {
		return x.Kind == api.KiBinary && !slices.Contains(names("+ - * / %"), x.Text)
	})
}

// nodes returns how many nodes an expression has.
func nodes(n api.Node) int {
	count := 1
	for _, x := range n.Subs {
		count += nodes(x)
	}
	return count
}

// P9.3: as many names, and as large expressions, as there may be; and many rows.
func TestLargeSolve(t *testing.T) {
	l := names("a b c d e f g h")
	rows := table("3 5 8 13 21 34 55 89, 7 11 13 17 19 23 29 31, 2 3 4 6 9 14 22 35")
	var want []int64
	for _, row := range rows {
		want = append(want, row[7]*row[6]-row[5])
	}
	if s := solved(t, l, rows, want, 5); s != "(g * h) - f" {
		t.Error(s)
	}
	want[1] = 123456789
	if s := solved(t, l, rows, want, 5); s != "-" {
		t.Error(s)
	}
	rows, want = nil, nil
	for i := range int64(200000) {
		rows, want = append(rows, []int64{i, 0, 0, 0, 0, 0, 0, 0}), append(want, 0)
	}
	if s := solved(t, l, rows, want, 5); s != "b" {
		t.Error(s)
	}
	want[len(want)-1] = 77
	if s := solved(t, l, rows, want, 5); s != "-" {
		t.Error(s)
	}
}
