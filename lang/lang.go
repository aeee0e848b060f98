// Package lang is layer 1: it contains the language: programs as trees and as text, which programs are well formed, which names mean what, and edits by statement number. See shared/doc/01-lang.md.
package lang

import "sleuth/api"

// Spot tells where a statement stands.
type Spot struct {
	Func   int  // the function, by its place in the program
	Fn     bool // inside a closure
	Parent int  // the statement in which it stands directly, or -1
	Part   int  // 0 the body of the function, 1 Body, 2 Else, 3 the body of a closure in an expression of Parent
	Index  int  // its place in that list
	Size   int  // how many statements it consists of, itself and those inside it
}

// alone returns the smallest program around some statements.
func alone(body ...api.Node) api.Program {
	return api.Program{Funcs: []api.Func{{Name: "main", Body: body}}}
}

// asStatement returns the statement that consists of an expression.
func asStatement(expression api.Node) api.Node {
	return api.Node{Kind: api.KiDo, Subs: []api.Node{expression}}
}

func isExpression(k api.Kind) bool { return api.KiNum <= k && k <= api.KiSpawn }

func isStatement(k api.Kind) bool { return api.KiLet <= k && k <= api.KiDo }
