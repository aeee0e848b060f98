package lang

import (
	"slices"

	"sleuth/api"
)

// Check returns the first error of a program: P1.3.
func Check(p api.Program) api.Errno {
	if e := Shape(p); e != api.OK {
		return e
	}
	arities := map[string]int{}
	for _, f := range p.Funcs {
		if _, twice := arities[f.Name]; twice {
			return api.ErrTwice
		}
		arities[f.Name] = len(f.Params)
	}
	params, found := arities["main"]
	if !found {
		return api.ErrName
	}
	if params != 0 {
		return api.ErrArg
	}
	for _, f := range p.Funcs {
		if e := checkNames(f, arities); e != api.OK {
			return e
		}
	}
	return api.OK
}

// scope is the names that a function has declared so far, each with the closure in which it did.
type scope map[string]int

func (s scope) isVisible(name string, closure int) bool {
	home, declared := s[name]
	return declared && (home == 0 || home == closure)
}

func checkNames(f api.Func, arities map[string]int) api.Errno {
	declared := scope{}
	for m := range mentions(f.Params, f.Body) {
		e := api.OK
		switch m.role {
		case declares:
			e = declared.add(m.name, m.closure)
		case uses:
			if !declared.isVisible(m.name, m.closure) {
				e = api.ErrName
			}
		case calls:
			e = checkCall(m, arities)
		}
		if e != api.OK {
			return e
		}
	}
	return api.OK
}

func (s scope) add(name string, closure int) api.Errno {
	if _, twice := s[name]; twice {
		return api.ErrTwice
	}
	if len(s) == api.MaxNames {
		return api.ErrLimit
	}
	s[name] = closure
	return api.OK
}

func checkCall(m mention, arities map[string]int) api.Errno {
	params, found := arities[m.name]
	if !found {
		return api.ErrName
	}
	if params != m.args {
		return api.ErrArg
	}
	return api.OK
}

// Names returns the names that are visible ahead of a statement: P1.9.
func Names(p api.Program, n int) ([]string, api.Errno) {
	if e := Check(p); e != api.OK {
		return nil, e
	}
	number := 0
	for _, f := range p.Funcs {
		var declared []mention
		for m := range mentions(f.Params, f.Body) {
			switch m.role {
			case declares:
				declared = append(declared, m)
			case begins:
				if number == n {
					return visible(declared, m.closure), api.OK
				}
				number++
			}
		}
	}
	return nil, api.ErrNone
}

func visible(declared []mention, closure int) []string {
	var names []string
	for _, m := range declared {
		if m.closure == 0 || m.closure == closure {
			names = append(names, m.name)
		}
	}
	return names
}

// Reads returns the names that a statement's own expressions read: P1.10.
func Reads(n api.Node) []string {
	if !isStatement(n.Kind) || Shape(alone(n)) != api.OK {
		return nil
	}
	return outer(n.Subs)
}

// Held returns the names that a closure holds: P1.10.
func Held(fn api.Node) []string {
	if fn.Kind != api.KiFn || Shape(alone(asStatement(fn))) != api.OK {
		return nil
	}
	return outer([]api.Node{fn})
}

// outer returns the names that are used in expressions, each once, but for those that closures in them declare themselves.
func outer(expressions []api.Node) []string {
	type home struct {
		name    string
		closure int
	}
	declared := map[home]bool{}
	for m := range mentions(nil, expressions) {
		if m.role == declares {
			declared[home{m.name, m.closure}] = true
		}
	}
	var names []string
	for m := range mentions(nil, expressions) {
		if m.role == uses && !declared[home{m.name, m.closure}] && !slices.Contains(names, m.name) {
			names = append(names, m.name)
		}
	}
	return names
}

// Calls returns, for each function, which functions a run of it may begin: P1.11.
func Calls(p api.Program) ([][]bool, api.Errno) {
	if e := Check(p); e != api.OK {
		return nil, e
	}
	reach := make([][]bool, len(p.Funcs))
	for i, f := range p.Funcs {
		reach[i] = make([]bool, len(p.Funcs))
		for m := range mentions(f.Params, f.Body) {
			if m.role == calls {
				reach[i][slices.IndexFunc(p.Funcs, func(g api.Func) bool { return g.Name == m.name })] = true
			}
		}
	}
	closeOver(reach)
	return reach, api.OK
}

// closeOver adds to each row the rows of what it contains (Warshall's order makes one pass enough).
func closeOver(reach [][]bool) {
	for through := range reach {
		for from := range reach {
			if !reach[from][through] {
				continue
			}
			for to := range reach {
				reach[from][to] = reach[from][to] || reach[through][to]
			}
		}
	}
}
