package typed

import (
	"sluicegate/api"
	"sluicegate/ast"
	"sluicegate/bv"
	"sluicegate/konst"
	"sluicegate/lit"
)

const (
	toSigned   = "$signed"
	toUnsigned = "$unsigned"

	numberWidth = 32
)

func (r *resolver) literal(e ast.Expr) item {
	l, err := lit.Parse(e.Text)
	switch err {
	case api.OK:
		return isolated(l.Val.Width(), l.Signed, total(), func() Expr { return Num(l.Val) })
	case api.ErrWidth, api.ErrRange:
		return r.fail(e, err)
	}
	return r.fail(e, api.ErrForm)
}

func (r *resolver) name(e ast.Expr) item {
	if kind, _, _ := r.scope.Find(e.Text); kind != aNumber {
		return r.signal(e)
	}
	n := r.constant(e)
	return isolated(numberWidth, true, total(), func() Expr { return Num(number(n)) })
}

// number returns a number of layer 11 in two's complement.
func number(n int) bv.Vec {
	v, _ := bv.New(numberWidth, uint64(n))
	return v
}

// signal reads the name of a signal that is not a memory.
func (r *resolver) signal(e ast.Expr) item {
	r.want(e, aSignal)
	_, num, x := r.scope.Find(e.Text)
	if x.Words != 0 {
		r.fail(e, api.ErrKind)
	}
	if !fits(x.Width) {
		r.fail(e, api.ErrWidth)
	}
	return isolated(x.Width, x.Signed, total(), func() Expr { return Signal(num, x) })
}

// want fails unless the name of e is of a kind.
func (r *resolver) want(e ast.Expr, kind int) {
	found, _, _ := r.scope.Find(e.Text)
	switch found {
	case kind:
	case 0:
		r.fail(e, api.ErrName)
	default:
		r.fail(e, api.ErrKind)
	}
}

// wantWithin fails unless n is one of 0 to count - 1.
func (r *resolver) wantWithin(e ast.Expr, n, count int) {
	if n < 0 || n >= count {
		r.fail(e, api.ErrRange)
	}
}

// index reads a bit of a signal or a word of a memory. It is constant if layer
// 11 has a value for it.
func (r *resolver) index(e ast.Expr) item {
	_, num, x := r.scope.Find(e.Text)
	n, _, err := konst.Eval(e.Args[0], r.scope.numbers)
	if err == api.OK && x.Words == 0 {
		whole := r.signal(e)
		r.wantWithin(e, n, x.Width)
		return isolated(1, false, total(), func() Expr { return part(whole.alone(), n, 1) })
	}
	at := r.read(e.Args[0])
	if x.Words == 0 {
		whole := r.signal(e)
		return isolated(1, false, total(at), func() Expr { return pick(whole.alone(), at.alone()) })
	}
	if err == api.OK {
		r.wantWithin(e, n, x.Words)
	}
	return isolated(x.Width, x.Signed, total(at), func() Expr { return word(num, x, at.alone()) })
}

// bits reads a part of a signal.
func (r *resolver) bits(e ast.Expr) item {
	high := r.constant(e.Args[0])
	low := r.constant(e.Args[1])
	if high < low {
		r.fail(e, api.ErrRange)
	}
	whole := r.signal(e)
	r.wantWithin(e, high, whole.width)
	r.wantWithin(e, low, whole.width)
	width := high - low + 1
	return isolated(width, false, total(), func() Expr { return part(whole.alone(), low, width) })
}

func (r *resolver) call(e ast.Expr) item {
	args := r.readAll(e.Args)
	if e.Text == toSigned || e.Text == toUnsigned {
		return r.cast(e, args)
	}
	r.want(e, aFunction)
	f := r.scope.names[e.Text].function
	if r.err == api.OK && len(args) != len(f.Params) {
		r.fail(e, api.ErrPort)
	}
	if r.err != api.OK {
		return item{}
	}
	return f.of(args)
}

// cast reads an argument that keeps its bits and becomes signed or unsigned.
func (r *resolver) cast(e ast.Expr, args []item) item {
	if len(args) != 1 {
		return r.fail(e, api.ErrPort)
	}
	x := args[0]
	return isolated(x.width, e.Text == toSigned, total(x), x.alone)
}

// of returns the call of f with arguments.
func (f *function) of(args []item) item {
	parts := total(args...) + min(f.nodes, api.MaxNodes)
	for i, x := range args {
		parts = min(parts+x.parts*min(f.uses[i], api.MaxNodes), api.MaxNodes+1)
	}
	return isolated(f.Width, f.Signed, parts, func() Expr {
		values := make([]Expr, len(args))
		for i, x := range args {
			values[i] = x.within(f.Params[i].Width)
		}
		return wide(Subst(f.Value, values...), f.Width, f.Signed)
	})
}
