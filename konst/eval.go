package konst

import (
	"sluicegate/api"
	"sluicegate/ast"
	"sluicegate/lit"
)

// Eval returns the value of an expression, or the first error in it with its
// position.
func Eval(e ast.Expr, v Env) (int, api.Pos, api.Errno) {
	r := evaluator{env: v}
	n := r.eval(e)
	return n, r.pos, r.err
}

// evaluator keeps the first error. After an error all values are 0.
type evaluator struct {
	env Env
	pos api.Pos
	err api.Errno
}

func (r *evaluator) fail(e ast.Expr, err api.Errno) int {
	if r.err == api.OK {
		r.pos, r.err = e.Pos, err
	}
	return 0
}

// eval returns the value of e. As both operands of an operation are in range,
// its result is too small to overflow: products and shifts are at most 2^62.
func (r *evaluator) eval(e ast.Expr) int {
	if r.err != api.OK {
		return 0
	}
	n := r.value(e)
	if r.err != api.OK {
		return 0
	}
	if n < least || n > greatest {
		return r.fail(e, api.ErrRange)
	}
	return n
}

// value returns the value of e, which may be out of range.
func (r *evaluator) value(e ast.Expr) int {
	switch {
	case e.Kind == ast.Num:
		return r.literal(e)
	case e.Kind == ast.Name:
		return r.name(e)
	case e.Kind == ast.Un && len(e.Args) == 1:
		return r.unary(e)
	case e.Kind == ast.Bin && len(e.Args) == 2:
		return r.binary(e)
	case e.Kind == ast.Cond && len(e.Args) == 3:
		return r.choice(e)
	}
	return r.fail(e, api.ErrConst)
}

func (r *evaluator) literal(e ast.Expr) int {
	l, err := lit.Parse(e.Text)
	if err == api.OK {
		n, err := l.Int()
		if err != api.OK {
			return r.fail(e, err)
		}
		return n
	}
	if err != api.ErrRange {
		err = api.ErrForm
	}
	return r.fail(e, err)
}

func (r *evaluator) name(e ast.Expr) int {
	n, found := r.env.Find(e.Text)
	if !found {
		return r.fail(e, api.ErrName)
	}
	return n
}

func (r *evaluator) unary(e ast.Expr) int {
	apply := unaryOf(e.Text)
	if apply == nil {
		return r.fail(e, api.ErrConst)
	}
	return apply(r.eval(e.Args[0]))
}

func (r *evaluator) binary(e ast.Expr) int {
	switch e.Text {
	case "&&":
		return truth(r.holds(e.Args[0]) && r.holds(e.Args[1]))
	case "||":
		return truth(r.holds(e.Args[0]) || r.holds(e.Args[1]))
	}
	apply := binaryOf(e.Text)
	if apply == nil {
		return r.fail(e, api.ErrConst)
	}
	a := r.eval(e.Args[0])
	b := r.eval(e.Args[1])
	if r.err == api.OK && !permits(e.Text, b) {
		r.fail(e, api.ErrRange)
	}
	if r.err != api.OK {
		return 0
	}
	return apply(a, b)
}

func (r *evaluator) choice(e ast.Expr) int {
	if r.holds(e.Args[0]) {
		return r.eval(e.Args[1])
	}
	return r.eval(e.Args[2])
}

func (r *evaluator) holds(e ast.Expr) bool { return r.eval(e) != 0 }
