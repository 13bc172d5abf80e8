package ast_test

import (
	"strings"
	"testing"

	"sluicegate/api"
	"sluicegate/ast"
)

func name(text string) ast.Expr { return ast.Expr{Kind: ast.Name, Text: text} }

func num(text string) ast.Expr { return ast.Expr{Kind: ast.Num, Text: text} }

// part returns an expression of any kind.
func part(kind int, text string, args ...ast.Expr) ast.Expr {
	return ast.Expr{Kind: kind, Text: text, Args: args}
}

func un(sign string, e ast.Expr) ast.Expr { return part(ast.Un, sign, e) }

func bin(a ast.Expr, sign string, b ast.Expr) ast.Expr { return part(ast.Bin, sign, a, b) }

func cond(c, a, b ast.Expr) ast.Expr { return part(ast.Cond, "", c, a, b) }

// exprs returns names, or numbers for words that begin with a digit.
func exprs(words ...string) []ast.Expr {
	var list []ast.Expr
	for _, word := range words {
		if '0' <= word[0] && word[0] <= '9' {
			list = append(list, num(word))
		} else {
			list = append(list, name(word))
		}
	}
	return list
}

func set(target, value string) ast.Stmt {
	return ast.Stmt{Kind: ast.Set, Exprs: exprs(target, value)}
}

// choice returns an If on a name.
func choice(condition string, first, second ast.Stmt) ast.Stmt {
	return ast.Stmt{Kind: ast.If, Exprs: exprs(condition), Body: []ast.Stmt{first, second}}
}

// only returns an If without an else.
func only(condition string, first ast.Stmt) ast.Stmt {
	return choice(condition, first, ast.Stmt{Kind: ast.Null})
}

func block(body ...ast.Stmt) ast.Stmt { return ast.Stmt{Kind: ast.Block, Body: body} }

// loop returns a For whose head is written as "for ( i = 0 ; c ; i = n )".
func loop(body ast.Stmt) ast.Stmt {
	return ast.Stmt{Kind: ast.For, Text: "i", Exprs: exprs("0", "c", "n"), Body: []ast.Stmt{body}}
}

func arm(body ast.Stmt, labels ...string) ast.Arm {
	return ast.Arm{Exprs: exprs(labels...), Body: body}
}

// net returns a declaration with bit and word numbers, if there are any.
func net(kind, text string, bounds ...string) ast.Item {
	return ast.Item{Kind: ast.Net, Type: kind, Text: text, Exprs: exprs(bounds...)}
}

func param(kind, text, value string) ast.Item {
	return ast.Item{Kind: ast.Param, Type: kind, Text: text, Exprs: exprs(value)}
}

// signed returns a declaration or function that is signed.
func signed(x ast.Item) ast.Item {
	x.Signed = true
	return x
}

// starting returns a declaration with an initial value.
func starting(x ast.Item, value ast.Expr) ast.Item {
	x.First = []ast.Expr{value}
	return x
}

func conn(port string, values ...ast.Expr) ast.Conn { return ast.Conn{Name: port, Exprs: values} }

func genBlock(text string, items ...ast.Item) []ast.Item {
	return []ast.Item{{Kind: ast.GenBlock, Text: text, Items: items}}
}

// moduleOf returns a module of items only.
func moduleOf(items ...ast.Item) ast.Module { return ast.Module{Name: "m", Items: items} }

// wordsOf returns the Text of modules without its division into lines.
func wordsOf(list ...ast.Module) string { return strings.Join(strings.Fields(ast.Text(list...)), " ") }

// mustWrite fails unless the text of the modules consists of these words.
func mustWrite(t *testing.T, want string, list ...ast.Module) {
	t.Helper()
	if got := wordsOf(list...); got != want {
		t.Errorf("P9.1: the text is\n%s\nnot\n%s", got, want)
	}
}

// mustWriteItem fails unless a module of this item has these words for it.
func mustWriteItem(t *testing.T, want string, x ast.Item) {
	t.Helper()
	mustWrite(t, "module m ( ) ; "+want+" endmodule", moduleOf(x))
}

// mustWriteStmt fails unless a process of this statement has these words for it.
func mustWriteStmt(t *testing.T, want string, s ast.Stmt) {
	t.Helper()
	mustWriteItem(t, "always @ * "+want, ast.Item{Kind: ast.Comb, Body: []ast.Stmt{s}})
}

// mustWriteExpr fails unless an assignment of this value has these words for it.
func mustWriteExpr(t *testing.T, want string, e ast.Expr) {
	t.Helper()
	mustWriteItem(t, "assign y = "+want+" ;", ast.Item{Kind: ast.Assign, Exprs: []ast.Expr{name("y"), e}})
}

// everything returns modules with a tree of each kind, in which all elements
// have positions.
func everything() []ast.Module {
	p := api.Pos{File: 1, Line: 2, Col: 3}
	leaf := func(kind int, text string, args ...ast.Expr) ast.Expr {
		return ast.Expr{Kind: kind, Pos: p, Text: text, Args: args}
	}
	e := leaf(ast.Bin, "+", leaf(ast.Name, "a"), leaf(ast.Call, "f", leaf(ast.Num, "1"), leaf(ast.Range, "b", leaf(ast.Num, "2"), leaf(ast.Num, "0"))))
	s := func(kind int, body ...ast.Stmt) ast.Stmt {
		return ast.Stmt{Kind: kind, Pos: p, Text: "s", Exprs: []ast.Expr{e, e}, Body: body}
	}
	cases := s(ast.Case)
	cases.Arms = []ast.Arm{{Exprs: []ast.Expr{e}, Body: s(ast.Null)}, {Body: s(ast.Later)}}
	body := []ast.Stmt{s(ast.Block, s(ast.Set), s(ast.If, s(ast.Assert), s(ast.For, s(ast.Null)))), cases}
	conns := func() []ast.Conn {
		return []ast.Conn{{Name: "a", Pos: p, Exprs: []ast.Expr{e}}, {Name: "b", Pos: p}}
	}
	item := func(kind int, items ...ast.Item) ast.Item {
		return ast.Item{Kind: kind, Pos: p, Text: "x", Type: "wire", Signed: true, Exprs: []ast.Expr{e}, First: []ast.Expr{e}, Body: body, Items: items, Else: items, Params: conns(), Ports: conns()}
	}
	m := ast.Module{Name: "m", Pos: p, Params: []ast.Item{item(ast.Param)}, Ports: []ast.Item{item(ast.Net)}, Items: []ast.Item{item(ast.GenIf, item(ast.GenBlock, item(ast.Inst))), item(ast.Comb)}}
	return []ast.Module{m, {Name: "n", Pos: p}}
}
