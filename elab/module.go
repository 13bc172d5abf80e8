package elab

import (
	"slices"

	"sluicegate/api"
	"sluicegate/ast"
	"sluicegate/flat"
	"sluicegate/typed"
)

const clockName = "clk"

// module returns the module of a name, and whether there is one.
func (e *elaborator) module(name string) (ast.Module, bool) {
	i := slices.IndexFunc(e.modules, func(m ast.Module) bool { return m.Name == name })
	if i < 0 {
		return ast.Module{}, false
	}
	return e.modules[i], true
}

// top processes the module of a name, which is in no other one.
func (e *elaborator) top(name string) {
	m, found := e.module(name)
	if !found {
		e.fail(api.Pos{}, api.ErrName)
		return
	}
	b := e.newModule("")
	for _, p := range b.header(m, nil) {
		num := b.declarePort(p, link{})
		switch {
		case p.kind == input:
			e.design.Inputs = append(e.design.Inputs, num)
		case p.kind != clock:
			e.design.Outputs = append(e.design.Outputs, num)
		}
	}
	b.items(m.Items)
}

// hasClock reports whether the name of the clock means the clock.
func (b *block) hasClock() bool { return b.names[clockName].kind == clock }

// port is a port of a module.
type port struct {
	ast.Item
	kind  int
	sig   typed.Sig
	first []int
}

// isDriven reports whether a port gets its value from around the module.
func (p port) isDriven() bool { return p.kind == input || p.kind == clock }

// header declares the parameters of a module, of which some have given values,
// and returns its ports.
func (b *block) header(m ast.Module, given map[string]int) []port {
	for _, x := range m.Params {
		n, found := given[x.Text]
		if !found {
			n = b.constant(at(x.Exprs, 0))
		}
		b.declareNumber(x.Pos, x.Text, n)
	}
	var ports []port
	for _, x := range m.Ports {
		sig, first := b.shape(x)
		ports = append(ports, port{x, b.portKind(x), sig, first})
	}
	return ports
}

func (b *block) portKind(x ast.Item) int {
	switch {
	case x.Kind != ast.Net || len(x.Exprs) > 2:
	case x.Type == "input" && x.Text == clockName && len(x.Exprs) == 0:
		return clock
	case x.Type == "input":
		return input
	case x.Type == "output":
		return wire
	case x.Type == "output reg":
		return register
	}
	b.fail(x.Pos, api.ErrForm)
	return 0
}

// declarePort declares a port that has a link, and returns the number of its
// signal.
func (b *block) declarePort(p port, l link) int {
	if p.kind == clock {
		b.declare(p.Pos, p.Text, declaration{kind: clock})
		return 0
	}
	num := l.sig
	b.declareSignal(p.Item, p.kind, p.sig, func() int {
		if l.kind != same {
			num = b.addStarted(p.Pos, p.sig, p.first)
		}
		return num
	})
	return num
}

// The kinds of links.
const (
	none   = iota // the port is not connected, or nothing follows from it
	same          // the port is a signal around the instance
	driven        // a value around the instance sets the port
	drives        // the port sets a target around the instance
)

// link is what a port of an instance is connected to.
type link struct {
	kind, sig int
	pos       api.Pos
	value     typed.Expr
	target    flat.Target
	width     int // of the target
}

// instance processes an instance. Its processes for ports come after those of
// its module.
func (b *block) instance(x ast.Item) {
	m, found := b.module(x.Type)
	if !found {
		b.fail(x.Pos, api.ErrName)
		return
	}
	inner := b.newModule(b.path + x.Text + ".")
	ports := inner.header(m, b.given(x, m))
	links := b.links(x, ports)
	b.count(x.Pos, &b.instances, api.MaxInst)
	var nums []int
	for i, p := range ports {
		nums = append(nums, inner.declarePort(p, links[i]))
	}
	inner.items(m.Items)
	for i, p := range ports {
		switch l := links[i]; l.kind {
		case driven:
			b.addWire(x.Pos, l.pos, flat.Target{Sig: nums[i], Width: p.sig.Width}, l.value)
		case drives:
			name := ast.Expr{Kind: ast.Name, Pos: p.Pos, Text: p.Text}
			b.addWire(x.Pos, l.pos, l.target, inner.resolve(name, l.width))
		}
	}
}

// given returns the values that an instance gives to parameters of its module.
func (b *block) given(x ast.Item, m ast.Module) map[string]int {
	values := map[string]int{}
	for i, c := range x.Params {
		isParam := slices.ContainsFunc(m.Params, func(p ast.Item) bool { return p.Text == c.Name })
		if !isParam || isConnected(x.Params[:i], c.Name) || len(c.Exprs) == 0 {
			b.fail(c.Pos, api.ErrPort)
		}
		values[c.Name] = b.constant(at(c.Exprs, 0))
	}
	return values
}

// links returns what the ports of an instance are connected to.
func (b *block) links(x ast.Item, ports []port) []link {
	links := make([]link, len(ports))
	for i, c := range x.Ports {
		n := slices.IndexFunc(ports, func(p port) bool { return p.Text == c.Name })
		if n < 0 || isConnected(x.Ports[:i], c.Name) {
			b.fail(c.Pos, api.ErrPort)
			break
		}
		links[n] = b.link(c, ports[n])
	}
	for _, p := range ports {
		if p.isDriven() && !isConnected(x.Ports, p.Text) {
			b.fail(x.Pos, api.ErrPort)
		}
	}
	return links
}

func isConnected(list []ast.Conn, name string) bool {
	return slices.ContainsFunc(list, func(c ast.Conn) bool { return c.Name == name })
}

// link returns what a connection of a port makes it.
func (b *block) link(c ast.Conn, p port) link {
	e := at(c.Exprs, 0)
	l := link{pos: c.Pos}
	switch {
	case p.kind == clock:
		if len(c.Exprs) == 0 || e.Kind != ast.Name || e.Text != clockName || !b.hasClock() {
			b.fail(c.Pos, api.ErrPort)
		}
	case len(c.Exprs) == 0 && p.isDriven():
		b.fail(c.Pos, api.ErrPort)
	case len(c.Exprs) == 0:
	case p.kind != input:
		l.kind = drives
		l.target, l.width = b.targetOf(e, wire)
	default:
		l.kind, l.value = driven, b.resolve(e, p.sig.Width)
		if kind, num, sig := b.scope.Find(e.Text); e.Kind == ast.Name && kind == scopeSignal && sig.Width == p.sig.Width {
			l.kind, l.sig = same, num
		}
	}
	return l
}
