package parse

import (
	"sluicegate/api"
	"sluicegate/ast"
)

// items reads items up to the word after them.
func (p *parser) items(end string) []ast.Item {
	var items []ast.Item
	for !p.takes(end) && p.err == api.OK {
		items = append(items, p.item()...)
	}
	return items
}

// seesItem reports whether the next token begins an item.
func (p *parser) seesItem() bool {
	return isName(p.next()) || p.sees("wire", "reg", "integer", "localparam", "genvar", "assign", "always", "function", "for", "if", "generate")
}

// item reads an item, which is replaced by those that it contains if it is a
// generate.
func (p *parser) item() []ast.Item {
	if !p.enterCounted(p.seesItem()) {
		return nil
	}
	defer p.leave()
	if p.takes("generate") {
		return p.items("endgenerate")
	}
	pos := p.pos()
	x := p.singleItem()
	x.Pos = pos
	return []ast.Item{x}
}

// singleItem reads any item but a generate. Its position is left to the caller.
func (p *parser) singleItem() ast.Item {
	switch {
	case p.sees("wire", "reg", "integer"):
		return p.declaration()
	case p.sees("localparam"):
		x := p.param("localparam")
		p.want(";")
		return x
	case p.takes("genvar"):
		x := ast.Item{Kind: ast.Genvar, Text: p.name()}
		p.want(";")
		return x
	case p.takes("assign"):
		return p.assign()
	case p.takes("always"):
		return p.always()
	case p.takes("function"):
		return p.function()
	case p.sees("for"):
		x := ast.Item{Kind: ast.GenFor}
		x.Text, x.Exprs = p.loop()
		x.Items = p.genBlock()
		return x
	case p.takes("if"):
		return p.genIf()
	}
	return p.instance()
}

// declaration reads a declaration that is not one of a port.
func (p *parser) declaration() ast.Item {
	var x ast.Item
	switch {
	case p.takes("integer"):
		x = ast.Item{Kind: ast.Net, Type: "integer", Text: p.name(), Signed: true}
	case p.takes("reg"):
		x = p.net("reg")
		if len(x.Exprs) > 0 && p.sees("[") {
			x.Exprs = append(x.Exprs, p.bounds()...)
		} else {
			x.First = p.first()
		}
	default:
		x = p.net(p.take().Text)
	}
	p.want(";")
	return x
}

func (p *parser) assign() ast.Item {
	target := p.left()
	p.want("=")
	x := ast.Item{Kind: ast.Assign, Exprs: []ast.Expr{target, p.expr()}}
	p.want(";")
	return x
}

// always reads a process after its first word.
func (p *parser) always() ast.Item {
	x := ast.Item{Kind: ast.Comb}
	p.want("@")
	if !p.takes("*") {
		p.want("(")
		if p.takes("posedge") {
			x.Kind, x.Text = ast.Clocked, p.name()
		} else {
			p.want("*")
		}
		p.want(")")
	}
	x.Body = []ast.Stmt{p.stmt()}
	return x
}

// function reads a function after its first word.
func (p *parser) function() ast.Item {
	x := ast.Item{Kind: ast.Func}
	x.Signed, x.Exprs = p.signAndBounds()
	x.Text = p.name()
	p.want(";")
	for p.sees("input", "reg", "integer") {
		x.Items = append(x.Items, p.local())
	}
	x.Body = []ast.Stmt{p.stmt()}
	p.want("endfunction")
	return x
}

// local reads a declaration of a function. Its variables have neither word
// numbers nor initial values.
func (p *parser) local() ast.Item {
	pos := p.pos()
	x := p.declaration()
	x.Pos = pos
	if len(x.Exprs) > 2 || len(x.First) > 0 {
		p.failAt(pos, api.ErrForm)
	}
	return x
}

func (p *parser) instance() ast.Item {
	x := ast.Item{Kind: ast.Inst, Type: p.name()}
	if p.takes("#") {
		x.Params = p.conns()
	}
	x.Text = p.name()
	x.Ports = p.conns()
	p.want(";")
	return x
}

func (p *parser) conns() []ast.Conn {
	var conns []ast.Conn
	p.want("(")
	if !p.sees(")") {
		conns = list(p, p.conn)
	}
	p.want(")")
	return conns
}

func (p *parser) conn() ast.Conn {
	c := ast.Conn{Pos: p.pos()}
	p.want(".")
	c.Name = p.name()
	p.want("(")
	if !p.sees(")") {
		c.Exprs = []ast.Expr{p.expr()}
	}
	p.want(")")
	return c
}

// genIf reads a condition for items after its first word.
func (p *parser) genIf() ast.Item {
	x := ast.Item{Kind: ast.GenIf, Exprs: p.condition()}
	x.Items = p.genBlock()
	if p.takes("else") {
		x.Else = p.genBlock()
	}
	return x
}

// genBlock reads the block of a loop or a condition, which is the only item
// there.
func (p *parser) genBlock() []ast.Item {
	x := ast.Item{Kind: ast.GenBlock, Pos: p.pos()}
	p.want("begin", ":")
	x.Text = p.name()
	x.Items = p.items("end")
	return []ast.Item{x}
}
