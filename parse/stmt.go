package parse

import (
	"sluicegate/api"
	"sluicegate/ast"
)

// seesStmt reports whether the next token begins a statement.
func (p *parser) seesStmt() bool {
	return isName(p.next()) || p.sees(";", "begin", "if", "case", "for", "assert")
}

func (p *parser) stmt() ast.Stmt {
	if !p.enterCounted(p.seesStmt()) {
		return ast.Stmt{}
	}
	defer p.leave()
	pos := p.pos()
	s := p.anyStmt()
	s.Pos = pos
	return s
}

// anyStmt reads a statement. Its position is left to the caller.
func (p *parser) anyStmt() ast.Stmt {
	switch {
	case p.takes(";"):
		return ast.Stmt{Kind: ast.Null}
	case p.takes("begin"):
		return p.block()
	case p.takes("if"):
		return p.branches()
	case p.takes("case"):
		return p.cases()
	case p.sees("for"):
		s := ast.Stmt{Kind: ast.For}
		s.Text, s.Exprs = p.loop()
		s.Body = []ast.Stmt{p.stmt()}
		return s
	case p.sees("assert"):
		return p.assert("")
	}
	return p.named()
}

// block reads a block after its first word.
func (p *parser) block() ast.Stmt {
	s := ast.Stmt{Kind: ast.Block}
	for !p.takes("end") && p.err == api.OK {
		s.Body = append(s.Body, p.stmt())
	}
	return s
}

// branches reads an If after its first word.
func (p *parser) branches() ast.Stmt {
	s := ast.Stmt{Kind: ast.If, Exprs: p.condition()}
	first, second := p.stmt(), ast.Stmt{Kind: ast.Null}
	if p.takes("else") {
		second = p.stmt()
	}
	s.Body = []ast.Stmt{first, second}
	return s
}

// condition reads an expression in parentheses.
func (p *parser) condition() []ast.Expr {
	p.want("(")
	e := p.expr()
	p.want(")")
	return []ast.Expr{e}
}

// cases reads a Case after its first word.
func (p *parser) cases() ast.Stmt {
	s := ast.Stmt{Kind: ast.Case, Exprs: p.condition()}
	s.Arms = []ast.Arm{p.arm()}
	for !p.takes("endcase") && p.err == api.OK {
		s.Arms = append(s.Arms, p.arm())
	}
	return s
}

func (p *parser) arm() ast.Arm {
	var arm ast.Arm
	if !p.takes("default") {
		arm.Exprs = list(p, p.expr)
	}
	p.want(":")
	arm.Body = p.stmt()
	return arm
}

// loop reads the head of a loop, and returns its variable and its expressions.
func (p *parser) loop() (string, []ast.Expr) {
	p.want("for", "(")
	name := p.name()
	p.want("=")
	first := p.expr()
	p.want(";")
	condition := p.expr()
	p.want(";")
	if p.next().Text != name {
		p.fail(api.ErrForm)
	}
	p.name()
	p.want("=")
	next := p.expr()
	p.want(")")
	return name, []ast.Expr{first, condition, next}
}

// assert reads an assertion after its name.
func (p *parser) assert(name string) ast.Stmt {
	p.want("assert")
	s := ast.Stmt{Kind: ast.Assert, Text: name, Exprs: p.condition()}
	p.want(";")
	return s
}

// named reads an assignment, or an assertion with a name.
func (p *parser) named() ast.Stmt {
	name := p.take()
	if p.takes(":") {
		return p.assert(name.Text)
	}
	s := ast.Stmt{Kind: ast.Set}
	target := p.part(name)
	if p.takes("<=") {
		s.Kind = ast.Later
	} else {
		p.want("=")
	}
	s.Exprs = []ast.Expr{target, p.expr()}
	p.want(";")
	return s
}
