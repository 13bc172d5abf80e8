package typed

import (
	"sluicegate/api"
	"sluicegate/ast"
	"sluicegate/konst"
)

// Self returns the self-determined width of an expression and whether it is
// signed, or the first error in it with its position.
func Self(s Scope, e ast.Expr) (width int, signed bool, p api.Pos, err api.Errno) {
	r := resolver{scope: s}
	x := r.read(e)
	return x.width, x.signed, r.pos, r.err
}

// Resolve returns the expression for e in a context of the given width, or the
// first error in it with its position.
func Resolve(s Scope, e ast.Expr, width int) (Expr, api.Pos, api.Errno) {
	r := resolver{scope: s}
	x := r.read(e)
	if width != 0 && !fits(width) {
		r.fail(e, api.ErrWidth)
	}
	if x.parts > api.MaxNodes {
		r.fail(e, api.ErrLimit)
	}
	if r.err != api.OK {
		return Expr{}, r.pos, r.err
	}
	result := x.within(width)
	if Nodes(result) > api.MaxNodes {
		return Expr{}, e.Pos, api.ErrLimit
	}
	return result, api.Pos{}, api.OK
}

// context is what the operands of an expression inherit from it.
type context struct {
	width  int
	signed bool
}

// item is an expression that has been read: its self-determined width and sign,
// and how many parts it has, counted as often as they occur in what build
// returns. The context of an expression is known only when the expressions
// around it have been read; therefore build comes later. Its context is at
// least as wide as the item.
type item struct {
	width  int
	signed bool
	parts  int
	build  func(c context) Expr
}

// alone builds x by itself.
func (x item) alone() Expr { return x.build(context{x.width, x.signed}) }

// within builds x for a context of the given width, or by itself if that is 0.
func (x item) within(width int) Expr {
	if width == 0 {
		width = x.width
	}
	return part(x.build(context{max(width, x.width), x.signed}), 0, width)
}

// isolated returns an item whose operands do not inherit the context around it:
// what bare returns is extended to that context.
func isolated(width int, signed bool, parts int, bare func() Expr) item {
	return item{width, signed, parts, func(c context) Expr { return wide(bare(), c.width, c.signed) }}
}

// resolver keeps the first error.
type resolver struct {
	scope Scope
	pos   api.Pos
	err   api.Errno
}

func (r *resolver) fail(e ast.Expr, err api.Errno) item {
	if r.err == api.OK {
		r.pos, r.err = e.Pos, err
	}
	return item{}
}

// read returns the item for e. After an error it returns nothing.
func (r *resolver) read(e ast.Expr) item {
	if r.err != api.OK {
		return item{}
	}
	x := r.readKind(e)
	if r.err == api.OK && !fits(x.width) {
		r.fail(e, api.ErrWidth)
	}
	if r.err != api.OK {
		return item{}
	}
	return x
}

func (r *resolver) readAll(list []ast.Expr) []item {
	items := make([]item, len(list))
	for i, e := range list {
		items[i] = r.read(e)
	}
	return items
}

func (r *resolver) readKind(e ast.Expr) item {
	count := len(e.Args)
	switch {
	case e.Kind == ast.Num:
		return r.literal(e)
	case e.Kind == ast.Name:
		return r.name(e)
	case e.Kind == ast.Un && count == 1:
		return r.unary(e)
	case e.Kind == ast.Bin && count == 2:
		return r.binary(e)
	case e.Kind == ast.Cond && count == 3:
		return r.choice(e)
	case e.Kind == ast.Cat && count >= 1:
		return r.joined(e.Args, 1)
	case e.Kind == ast.Rep && count >= 2:
		return r.repeated(e)
	case e.Kind == ast.Index && count == 1:
		return r.index(e)
	case e.Kind == ast.Range && count == 2:
		return r.bits(e)
	case e.Kind == ast.Call:
		return r.call(e)
	}
	return r.fail(e, api.ErrForm)
}

// constant returns the value of a constant expression.
func (r *resolver) constant(e ast.Expr) int {
	n, pos, err := konst.Eval(e, r.scope.numbers)
	if r.err == api.OK {
		r.pos, r.err = pos, err
	}
	return n
}

// total returns the number of parts of an expression: itself and those of
// items. More than there may be are counted as one more, as their number may be
// beyond all bounds.
func total(items ...item) int {
	count := 1
	for _, x := range items {
		count = min(count+x.parts, api.MaxNodes+1)
	}
	return count
}
