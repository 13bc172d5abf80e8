// Package fresh copies parts of designs, so that results and objects with state
// share no memory with what was passed to a function.
package fresh

import (
	"sluicegate/flat"
	"sluicegate/typed"
)

// Procs returns a copy of processes.
func Procs(list ...flat.Proc) []flat.Proc {
	var copies []flat.Proc
	for _, p := range list {
		p.Body = stmts(p.Body)
		copies = append(copies, p)
	}
	return copies
}

// Target returns a copy of a target.
func Target(t flat.Target) flat.Target {
	var index []typed.Expr
	for _, e := range t.Index {
		index = append(index, typed.Subst(e))
	}
	t.Index = index
	return t
}

func stmts(list []flat.Stmt) []flat.Stmt {
	var copies []flat.Stmt
	for _, x := range list {
		x.Target, x.Value = Target(x.Target), typed.Subst(x.Value)
		x.Body, x.Else = stmts(x.Body), stmts(x.Else)
		copies = append(copies, x)
	}
	return copies
}
