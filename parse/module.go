package parse

import "sluicegate/ast"

func (p *parser) module() ast.Module {
	m := ast.Module{Pos: p.pos()}
	p.want("module")
	m.Name = p.name()
	if p.takes("#") {
		p.want("(")
		m.Params = list(p, func() ast.Item { return p.param("parameter") })
		p.want(")")
	}
	p.want("(")
	if !p.sees(")") {
		m.Ports = list(p, p.port)
	}
	p.want(")", ";")
	m.Items = p.items("endmodule")
	return m
}

// param reads a parameter of a type.
func (p *parser) param(kind string) ast.Item {
	x := ast.Item{Kind: ast.Param, Pos: p.pos(), Type: kind}
	p.want(kind)
	x.Text = p.name()
	p.want("=")
	x.Exprs = []ast.Expr{p.expr()}
	return x
}

func (p *parser) port() ast.Item {
	pos := p.pos()
	kind := "input"
	if p.takes("output") {
		kind = "output"
		if p.takes("reg") {
			kind = "output reg"
		}
	} else {
		p.want("input")
	}
	x := p.net(kind)
	x.Pos = pos
	if kind == "output reg" {
		x.First = p.first()
	}
	return x
}

// net reads a declaration after its type, up to the name.
func (p *parser) net(kind string) ast.Item {
	x := ast.Item{Kind: ast.Net, Type: kind}
	x.Signed, x.Exprs = p.signAndBounds()
	x.Text = p.name()
	return x
}

// signAndBounds reads whether something is signed, and its bit numbers.
func (p *parser) signAndBounds() (bool, []ast.Expr) {
	isSigned := p.takes("signed")
	if !p.sees("[") {
		return isSigned, nil
	}
	return isSigned, p.bounds()
}

// bounds reads two expressions in brackets.
func (p *parser) bounds() []ast.Expr {
	p.want("[")
	high := p.expr()
	p.want(":")
	low := p.expr()
	p.want("]")
	return []ast.Expr{high, low}
}

// first reads the initial value of a reg, if there is one.
func (p *parser) first() []ast.Expr {
	if !p.takes("=") {
		return nil
	}
	return []ast.Expr{p.expr()}
}
