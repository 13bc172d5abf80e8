package parse_test

import (
	"strconv"

	"sluicegate/ast"
)

// place says what a statement must not be where it is.
type place struct {
	beforeElse bool // it must not end with an If without an else
	inElse     bool // it must not be Null
}

func (m *maker) stmt(where place) ast.Stmt {
	defer m.enter()()
	pos := m.pos()
	s := m.simple(where)
	s.Pos = pos
	return s
}

// simple adds a statement that its caller gives a position.
func (m *maker) simple(where place) ast.Stmt {
	kind := ast.Block + m.r.IntN(ast.Null)
	if m.isLeaf() {
		kind = []int{ast.Set, ast.Later, ast.Null, ast.Null}[m.r.IntN(4)]
	}
	if kind == ast.Null && where.inElse {
		kind = ast.Assert
	}
	s := ast.Stmt{Kind: kind}
	switch kind {
	case ast.Block:
		m.put("begin")
		for range m.r.IntN(4) {
			s.Body = append(s.Body, m.stmt(place{}))
		}
		m.put("end")
	case ast.If:
		m.branches(&s, where)
	case ast.Case:
		m.cases(&s)
	case ast.For:
		s.Text, s.Exprs = m.loop()
		s.Body = []ast.Stmt{m.stmt(place{beforeElse: where.beforeElse})}
	default:
		m.basic(&s)
	}
	return s
}

// basic adds a statement without others in it.
func (m *maker) basic(s *ast.Stmt) {
	switch s.Kind {
	case ast.Set, ast.Later:
		target := m.left()
		m.put(map[int]string{ast.Set: "=", ast.Later: "<="}[s.Kind])
		s.Exprs = []ast.Expr{target, m.expr()}
	case ast.Assert:
		if m.chance(2) {
			s.Text = m.name()
			m.put(":")
		}
		m.put("assert")
		s.Exprs = m.condition()
	}
	m.put(";")
}

func (m *maker) condition() []ast.Expr {
	m.put("(")
	e := m.expr()
	m.put(")")
	return []ast.Expr{e}
}

func (m *maker) branches(s *ast.Stmt, where place) {
	m.put("if")
	s.Exprs = m.condition()
	hasElse := where.beforeElse || m.chance(2)
	first := m.stmt(place{beforeElse: hasElse})
	second := ast.Stmt{Kind: ast.Null}
	if hasElse {
		m.put("else")
		second = m.stmt(place{beforeElse: where.beforeElse, inElse: m.isPlain || where.beforeElse})
	}
	s.Body = []ast.Stmt{first, second}
}

func (m *maker) cases(s *ast.Stmt) {
	m.put("case")
	s.Exprs = m.condition()
	for range 1 + m.r.IntN(3) {
		var arm ast.Arm
		if m.chance(3) {
			m.put("default")
		} else {
			arm.Exprs = m.exprs(1, 3)
		}
		m.put(":")
		arm.Body = m.stmt(place{})
		s.Arms = append(s.Arms, arm)
	}
	m.put("endcase")
}

func (m *maker) loop() (string, []ast.Expr) {
	m.put("for", "(")
	name := m.name()
	m.put("=")
	first := m.expr()
	m.put(";")
	condition := m.expr()
	m.put(";", name, "=")
	next := m.expr()
	m.put(")")
	return name, []ast.Expr{first, condition, next}
}

// item adds an item, or several ones as a generate.
func (m *maker) item() []ast.Item {
	defer m.enter()()
	if !m.isPlain && m.chance(8) {
		m.put("generate")
		m.hasGenerate = true
		list := m.items(2)
		m.put("endgenerate")
		return list
	}
	pos := m.pos()
	x := choose(m, m.wire, m.reg, m.integer, m.localparam, m.genvar, m.assign, m.comb, m.clocked, m.function, m.instance, m.genFor, m.genIf)
	x.Pos = pos
	return []ast.Item{x}
}

func (m *maker) items(most int) []ast.Item {
	var list []ast.Item
	for range m.r.IntN(most + 1) {
		list = append(list, m.item()...)
	}
	return list
}

// net adds a declaration up to its name.
func (m *maker) net(kind string) ast.Item {
	x := ast.Item{Kind: ast.Net, Type: kind}
	m.signAndBounds(&x)
	x.Text = m.name()
	return x
}

func (m *maker) signAndBounds(x *ast.Item) {
	if m.chance(3) {
		m.put("signed")
		x.Signed = true
	}
	if m.chance(2) {
		x.Exprs = m.bounds()
	}
}

func (m *maker) wire() ast.Item {
	m.put("wire")
	x := m.net("wire")
	m.put(";")
	return x
}

func (m *maker) reg() ast.Item {
	m.put("reg")
	x := m.net("reg")
	switch choice := m.r.IntN(3); {
	case choice == 0 && len(x.Exprs) > 0:
		x.Exprs = append(x.Exprs, m.bounds()...)
	case choice == 1:
		x.First = m.first()
	}
	m.put(";")
	return x
}

func (m *maker) first() []ast.Expr {
	m.put("=")
	return []ast.Expr{m.expr()}
}

func (m *maker) integer() ast.Item {
	m.put("integer")
	x := ast.Item{Kind: ast.Net, Type: "integer", Text: m.name(), Signed: true}
	m.put(";")
	return x
}

// param adds a parameter of a type, up to its value.
func (m *maker) param(kind string) ast.Item {
	x := ast.Item{Kind: ast.Param, Pos: m.put(kind), Type: kind, Text: m.name()}
	m.put("=")
	x.Exprs = []ast.Expr{m.expr()}
	return x
}

func (m *maker) localparam() ast.Item {
	x := m.param("localparam")
	m.put(";")
	return x
}

func (m *maker) genvar() ast.Item {
	m.put("genvar")
	x := ast.Item{Kind: ast.Genvar, Text: m.name()}
	m.put(";")
	return x
}

func (m *maker) assign() ast.Item {
	m.put("assign")
	target := m.left()
	m.put("=")
	x := ast.Item{Kind: ast.Assign, Exprs: []ast.Expr{target, m.expr()}}
	m.put(";")
	return x
}

func (m *maker) comb() ast.Item {
	m.put("always", "@")
	if m.isPlain || m.chance(2) {
		m.put("*")
	} else {
		m.put("(", "*", ")")
	}
	return ast.Item{Kind: ast.Comb, Body: []ast.Stmt{m.stmt(place{})}}
}

func (m *maker) clocked() ast.Item {
	m.put("always", "@", "(", "posedge")
	x := ast.Item{Kind: ast.Clocked, Text: m.name()}
	m.put(")")
	x.Body = []ast.Stmt{m.stmt(place{})}
	return x
}

func (m *maker) function() ast.Item {
	m.put("function")
	x := ast.Item{Kind: ast.Func}
	m.signAndBounds(&x)
	x.Text = m.name()
	m.put(";")
	for range m.r.IntN(4) {
		x.Items = append(x.Items, choose(m, m.local("input"), m.local("reg"), m.integerLocal))
	}
	x.Body = []ast.Stmt{m.stmt(place{})}
	m.put("endfunction")
	return x
}

func (m *maker) local(kind string) func() ast.Item {
	return func() ast.Item {
		pos := m.put(kind)
		x := m.net(kind)
		x.Pos = pos
		m.put(";")
		return x
	}
}

func (m *maker) integerLocal() ast.Item {
	pos := m.pos()
	x := m.integer()
	x.Pos = pos
	return x
}

func (m *maker) instance() ast.Item {
	x := ast.Item{Kind: ast.Inst, Type: m.name()}
	if m.chance(2) {
		m.put("#")
		least := 0
		if m.isPlain {
			least = 1
		}
		x.Params = m.conns(least)
	}
	x.Text = m.name()
	x.Ports = m.conns(0)
	m.put(";")
	return x
}

func (m *maker) conns(least int) []ast.Conn {
	var list []ast.Conn
	m.put("(")
	m.list(least, 3, func() {
		c := ast.Conn{Pos: m.put("."), Name: m.name()}
		m.put("(")
		if m.chance(2) {
			c.Exprs = []ast.Expr{m.expr()}
		}
		m.put(")")
		list = append(list, c)
	})
	m.put(")")
	return list
}

func (m *maker) genFor() ast.Item {
	x := ast.Item{Kind: ast.GenFor}
	x.Text, x.Exprs = m.loop()
	x.Items = m.genBlock()
	return x
}

func (m *maker) genIf() ast.Item {
	m.put("if")
	x := ast.Item{Kind: ast.GenIf, Exprs: m.condition()}
	x.Items = m.genBlock()
	if m.chance(2) {
		m.put("else")
		x.Else = m.genBlock()
	}
	return x
}

func (m *maker) genBlock() []ast.Item {
	x := ast.Item{Kind: ast.GenBlock, Pos: m.put("begin", ":"), Text: m.name()}
	most := 3
	if m.isLeaf() {
		most = 0
	}
	x.Items = m.items(most)
	m.put("end")
	return []ast.Item{x}
}

func (m *maker) port() ast.Item {
	pos := m.pos()
	kind := m.pick("input output reg")
	if kind == "reg" {
		m.put("output")
	}
	m.put(kind)
	if kind == "reg" {
		kind = "output reg"
	}
	x := m.net(kind)
	x.Pos = pos
	if kind == "output reg" && m.chance(2) {
		x.First = m.first()
	}
	return x
}

func (m *maker) module(name string) ast.Module {
	x := ast.Module{Name: name, Pos: m.put("module", name)}
	if m.chance(2) {
		m.put("#", "(")
		m.list(1, 3, func() { x.Params = append(x.Params, m.param("parameter")) })
		m.put(")")
	}
	m.put("(")
	m.list(0, 3, func() { x.Ports = append(x.Ports, m.port()) })
	m.put(")", ";")
	x.Items = m.items(5)
	m.put("endmodule")
	return x
}

// modules adds up to so many modules.
func (m *maker) modules(most int) []ast.Module {
	var list []ast.Module
	for i := range m.r.IntN(most + 1) {
		list = append(list, m.module("m"+strconv.Itoa(i)))
	}
	return list
}
