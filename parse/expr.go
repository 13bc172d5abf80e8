package parse

import (
	"sluicegate/api"
	"sluicegate/ast"
	"sluicegate/lex"
)

// levels are the operators of two operands in the order of increasing
// precedence.
var levels = [...][]string{
	{"||"},
	{"&&"},
	{"|"},
	{"^", "~^", "^~"},
	{"&"},
	{"==", "!="},
	{"<", "<=", ">", ">="},
	{"<<", ">>", "<<<", ">>>"},
	{"+", "-"},
	{"*", "/", "%"},
}

// levelOf returns the level of an operator of two operands, or -1 for any other
// token.
func levelOf(t lex.Token) int {
	for level, signs := range levels {
		for _, sign := range signs {
			if isOne(t, sign) {
				return level
			}
		}
	}
	return -1
}

func isPrefix(t lex.Token) bool {
	return isOne(t, "-", "~", "!", "&", "|", "^", "~&", "~|", "~^", "^~", "+")
}

// seesExpr reports whether the next token begins an expression.
func (p *parser) seesExpr() bool {
	t := p.next()
	return t.Kind == lex.Number || isName(t) || isCast(t) || isPrefix(t) || isOne(t, "(", "{")
}

func (p *parser) expr() ast.Expr {
	if !p.enter(p.seesExpr()) {
		return ast.Expr{}
	}
	defer p.leave()
	pos := p.pos()
	condition := p.binary(0)
	if !p.takes("?") {
		return condition
	}
	first := p.expr()
	p.want(":")
	second := p.expr()
	return ast.Expr{Kind: ast.Cond, Pos: pos, Args: []ast.Expr{condition, first, second}}
}

// binary reads an expression whose operators of two operands, except within its
// operands, are of a level or a higher one.
func (p *parser) binary(lowest int) ast.Expr {
	pos := p.pos()
	left := p.prefixed()
	for level := levelOf(p.next()); level >= lowest; level = levelOf(p.next()) {
		sign := p.take().Text
		right := p.binary(level + 1)
		left = ast.Expr{Kind: ast.Bin, Pos: pos, Text: treeSign(sign), Args: []ast.Expr{left, right}}
	}
	return left
}

// prefixed reads a primary expression and the operators before it.
func (p *parser) prefixed() ast.Expr {
	if !isPrefix(p.next()) {
		return p.primary()
	}
	if !p.enter(true) {
		return ast.Expr{}
	}
	defer p.leave()
	sign := p.take()
	operand := p.prefixed()
	if sign.Text == "+" {
		return operand
	}
	return ast.Expr{Kind: ast.Un, Pos: sign.Pos, Text: treeSign(sign.Text), Args: []ast.Expr{operand}}
}

// treeSign returns the sign of an operator as it is in the tree, where one of them
// is always written in the same way.
func treeSign(sign string) string {
	if sign == "^~" {
		return "~^"
	}
	return sign
}

func (p *parser) primary() ast.Expr {
	t := p.next()
	switch {
	case t.Kind == lex.Number:
		p.take()
		return ast.Expr{Kind: ast.Num, Pos: t.Pos, Text: t.Text}
	case p.takes("("):
		e := p.expr()
		p.want(")")
		return e
	case p.takes("{"):
		return p.braced(t.Pos)
	case isCast(t):
		p.take()
		return p.call(t)
	case isName(t):
		p.take()
		if p.sees("(") {
			return p.call(t)
		}
		return p.part(t)
	}
	p.fail(api.ErrForm)
	return ast.Expr{}
}

// braced reads a concatenation or a replication after the brace at a position.
func (p *parser) braced(pos api.Pos) ast.Expr {
	e := ast.Expr{Kind: ast.Cat, Pos: pos, Args: list(p, p.expr)}
	if len(e.Args) == 1 && p.takes("{") {
		e.Kind, e.Args = ast.Rep, append(e.Args, list(p, p.expr)...)
		p.want("}")
	}
	p.want("}")
	return e
}

// call reads the arguments of a function.
func (p *parser) call(name lex.Token) ast.Expr {
	p.want("(")
	e := ast.Expr{Kind: ast.Call, Pos: name.Pos, Text: name.Text, Args: list(p, p.expr)}
	p.want(")")
	return e
}

// left reads the target of an assignment.
func (p *parser) left() ast.Expr {
	t := p.next()
	p.name()
	return p.part(t)
}

// part reads what follows the name of a signal: an index, two bounds or nothing.
func (p *parser) part(name lex.Token) ast.Expr {
	e := ast.Expr{Kind: ast.Name, Pos: name.Pos, Text: name.Text}
	if !p.takes("[") {
		return e
	}
	e.Kind, e.Args = ast.Index, []ast.Expr{p.expr()}
	if p.takes(":") {
		e.Kind, e.Args = ast.Range, append(e.Args, p.expr())
	}
	p.want("]")
	return e
}
