// Package sample reads and writes expressions and modules for the tests of the
// layers.
package sample

import (
	"strings"

	"sluicegate/api"
	"sluicegate/ast"
	"sluicegate/lex"
	"sluicegate/parse"
	"sluicegate/pre"
)

const (
	before = "module m ( ) ; assign y = "
	after  = " ; endmodule"
)

// Expr returns the expression that a text is, and whether it is one. Each of
// its parts has a position of its own, so that a part and its first operand can
// be told apart.
func Expr(text string) (ast.Expr, bool) {
	tokens, _, err := lex.Lex(pre.Piece{Text: before + text + after})
	if err != api.OK {
		return ast.Expr{}, false
	}
	list, _, err := parse.Parse(tokens...)
	if err != api.OK || len(list) != 1 || len(list[0].Items) != 1 {
		return ast.Expr{}, false
	}
	return Placed(list[0].Items[0].Exprs[1]), true
}

// Modules returns the modules that a text consists of, and whether it does. Their
// positions are those in the text.
func Modules(text string) ([]ast.Module, bool) {
	tokens, _, err := lex.Lex(pre.Piece{Text: text, Pos: api.Pos{File: 1, Line: 1, Col: 1}})
	if err != api.OK {
		return nil, false
	}
	list, _, err := parse.Parse(tokens...)
	return list, err == api.OK
}

// Placed returns e with a position of its own for each of its parts.
func Placed(e ast.Expr) ast.Expr {
	count := 0
	return placed(e, func() api.Pos {
		count++
		return api.Pos{File: 1, Line: 2, Col: count}
	})
}

func placed(e ast.Expr, next func() api.Pos) ast.Expr {
	args := e.Args
	e.Pos, e.Args = next(), nil
	for _, arg := range args {
		e.Args = append(e.Args, placed(arg, next))
	}
	return e
}

// Text returns the text of an expression.
func Text(e ast.Expr) string {
	item := ast.Item{Kind: ast.Assign, Exprs: []ast.Expr{{Kind: ast.Name, Text: "y"}, e}}
	words := strings.Fields(ast.Text(ast.Module{Name: "m", Items: []ast.Item{item}}))
	text := strings.Join(words, " ")
	return strings.TrimSuffix(strings.TrimPrefix(text, before), after)
}

// At returns the text of the part of e that has a position, or nothing if there
// is none.
func At(e ast.Expr, pos api.Pos) string {
	if e.Pos == pos {
		return Text(e)
	}
	for _, arg := range e.Args {
		if text := At(arg, pos); text != "" {
			return text
		}
	}
	return ""
}
