package elab

import (
	"slices"
	"strconv"

	"sluicegate/api"
	"sluicegate/ast"
	"sluicegate/flat"
)

// stmt returns the statements of a process that a statement becomes.
func (b *block) stmt(s ast.Stmt) []flat.Stmt {
	if !b.step(s.Pos) {
		return nil
	}
	var list []flat.Stmt
	switch s.Kind {
	case ast.Block:
		for _, inner := range s.Body {
			list = append(list, b.stmt(inner)...)
		}
	case ast.Set:
		list = b.assignment(s, flat.Set)
	case ast.Later:
		list = b.assignment(s, flat.Later)
	case ast.If, ast.Case:
		list = b.choice(s)
	case ast.For:
		b.loop(s.Pos, integer, s.Text, s.Exprs, func(inner *block, _ int) {
			list = append(list, inner.stmt(at(s.Body, 0))...)
		})
	case ast.Assert:
		list = b.assertion(s)
	case ast.Null:
	default:
		b.fail(s.Pos, api.ErrForm)
	}
	return list
}

func (b *block) assignment(s ast.Stmt, kind int) []flat.Stmt {
	target, width := b.targetOf(at(s.Exprs, 0), register)
	value := b.resolve(at(s.Exprs, 1), width)
	b.count(s.Pos, &b.stmts, api.MaxStmts)
	return []flat.Stmt{{Kind: kind, Pos: s.Pos, Target: target, Value: value}}
}

func (b *block) assertion(s ast.Stmt) []flat.Stmt {
	value := b.resolve(at(s.Exprs, 0), 0)
	b.count(s.Pos, &b.stmts, api.MaxStmts)
	name := s.Text
	if name == "" {
		name = "assert"
	}
	num := len(b.design.Asserts)
	b.design.Asserts = append(b.design.Asserts, b.path+name+"#"+strconv.Itoa(num))
	return []flat.Stmt{{Kind: flat.Assert, Pos: s.Pos, Value: value, Assert: num}}
}

// choice returns the statements that an If or a Case becomes: an If for each
// condition, in the Else of the one before it.
func (b *block) choice(s ast.Stmt) []flat.Stmt {
	var ifs, last []flat.Stmt
	b.branches(s, func(conditions []ast.Expr, body ast.Stmt) {
		if len(conditions) == 0 {
			last = b.stmt(body)
			return
		}
		value := b.resolve(conditions[0], 0)
		b.count(s.Pos, &b.stmts, api.MaxStmts)
		ifs = append(ifs, flat.Stmt{Kind: flat.If, Pos: s.Pos, Value: value, Body: b.stmt(body)})
	})
	for _, x := range slices.Backward(ifs) {
		x.Else = last
		last = []flat.Stmt{x}
	}
	return last
}

// branches calls take for each branch of an If or a Case, in the order of the
// tree, with its condition. The branch for all other cases has none.
func (b *block) branches(s ast.Stmt, take func(conditions []ast.Expr, body ast.Stmt)) {
	if s.Kind == ast.If {
		take([]ast.Expr{at(s.Exprs, 0)}, at(s.Body, 0))
		take(nil, at(s.Body, 1))
		return
	}
	b.resolve(at(s.Exprs, 0), 0) // for its errors: there may be no condition
	defaults := 0
	for _, arm := range s.Arms {
		if len(arm.Exprs) > 0 {
			take([]ast.Expr{isOneOf(s, arm.Exprs)}, arm.Body)
			continue
		}
		defaults++
		if defaults > 1 {
			b.fail(s.Pos, api.ErrTwice)
		}
		take(nil, arm.Body)
	}
}

// isOneOf returns the condition that the selector of a Case is one of some
// labels.
func isOneOf(s ast.Stmt, labels []ast.Expr) ast.Expr {
	binary := func(sign string, args ...ast.Expr) ast.Expr {
		return ast.Expr{Kind: ast.Bin, Pos: s.Pos, Text: sign, Args: args}
	}
	selector := at(s.Exprs, 0)
	all := binary("==", selector, labels[0])
	for _, label := range labels[1:] {
		all = binary("|", all, binary("==", selector, label))
	}
	return all
}
