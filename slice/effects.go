package slice

import (
	"slices"

	"sleuth/api"
	"sleuth/lang"
)

// Effect is what a statement does by itself, without the statements in it.
type Effect struct {
	Unit    int      // the function or closure to which it belongs
	Parent  int      // the statement in which it stands directly, or -1
	Reads   []string // lang.Reads
	Sets    string   // of KiLet, KiSet and KiTry the name
	Loads   bool     // its own expressions have a KiLoad
	Stores  bool     // it is a KiStore
	Inputs  bool     // its own expressions have a KiInput
	Clocks  bool     // its own expressions have a KiClock
	Calls   []int    // the functions of the KiCalls in its own expressions, ascending, each once
	Applies bool     // its own expressions have a KiApply
	Jumps   bool     // it is a KiReturn or KiThrow
	Throws  bool     // it may throw
}

// Scope returns ErrScope for a program with more than one thread, or with locks: P5.1.
func Scope(p api.Program) api.Errno {
	if e := lang.Check(p); e != api.OK {
		return e
	}
	for _, f := range p.Funcs {
		if slices.ContainsFunc(f.Body, isOfThreads) {
			return api.ErrScope
		}
	}
	return api.OK
}

// isOfThreads reports whether a node, or one inside it, begins a thread, waits for one, or locks something.
func isOfThreads(n api.Node) bool {
	switch n.Kind {
	case api.KiSpawn, api.KiJoin, api.KiLock, api.KiUnlock:
		return true
	}
	return slices.ContainsFunc(n.Subs, isOfThreads) || slices.ContainsFunc(n.Body, isOfThreads) || slices.ContainsFunc(n.Else, isOfThreads)
}

// Units returns how many units there are, and the unit of each statement: P5.1.
func Units(p api.Program) (units int, of []int, e api.Errno) {
	x, e := read(p)
	if e != api.OK {
		return 0, nil, e
	}
	for _, s := range x.statements {
		of = append(of, s.Unit)
	}
	return len(x.bodies), of, api.OK
}

// Effects returns what each statement does by itself: P5.2.
func Effects(p api.Program) ([]Effect, api.Errno) {
	x, e := read(p)
	if e != api.OK {
		return nil, e
	}
	var effects []Effect
	for _, s := range x.statements {
		effects = append(effects, s.Effect)
	}
	return effects, api.OK
}

// Throwing returns which functions may throw, and whether closures may: P5.2.
func Throwing(p api.Program) (functions []bool, closures bool, e api.Errno) {
	x, e := read(p)
	if e != api.OK {
		return nil, false, e
	}
	throwing := x.throwing()
	return throwing[:x.functions], throwing[x.functions], api.OK
}
