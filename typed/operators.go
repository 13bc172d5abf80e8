package typed

import (
	"sluicegate/api"
	"sluicegate/ast"
	"sluicegate/bv"
)

func (r *resolver) unary(e ast.Expr) item {
	sign := e.Text
	switch sign {
	case "-", "~":
		x := r.read(e.Args[0])
		op := bv.Not
		if sign == "-" {
			op = bv.Neg
		}
		return item{x.width, x.signed, total(x), func(c context) Expr { return one(op, x.build(c)) }}
	case "!", "&", "|", "^", "~&", "~|", "~^":
		x := r.read(e.Args[0])
		return isolated(1, false, total(x), func() Expr { return reduction(sign, x.alone()) })
	}
	return r.fail(e, api.ErrForm)
}

func reduction(sign string, e Expr) Expr {
	switch sign {
	case "&":
		return one(bv.RedAnd, e)
	case "|":
		return one(bv.RedOr, e)
	case "^":
		return one(bv.RedXor, e)
	case "~&":
		return one(bv.Not, one(bv.RedAnd, e))
	case "~^":
		return one(bv.Not, one(bv.RedXor, e))
	}
	return one(bv.Zero, e) // ! and ~|
}

func (r *resolver) binary(e ast.Expr) item {
	switch e.Text {
	case "+", "-", "*", "/", "%", "&", "|", "^", "~^":
		return r.arithmetic(e)
	case "<<", ">>", "<<<", ">>>":
		return r.shift(e)
	case "<", "<=", ">", ">=", "==", "!=":
		return r.comparison(e)
	case "&&", "||":
		return r.logical(e)
	}
	return r.fail(e, api.ErrForm)
}

func (r *resolver) arithmetic(e ast.Expr) item {
	a := r.read(e.Args[0])
	b := r.read(e.Args[1])
	build := func(c context) Expr {
		if e.Text == "~^" {
			return one(bv.Not, two(bv.Xor, a.build(c), b.build(c)))
		}
		return two(arithmeticOp(e.Text, c.signed), a.build(c), b.build(c))
	}
	return item{max(a.width, b.width), a.signed && b.signed, total(a, b), build}
}

func arithmeticOp(sign string, signed bool) int {
	switch sign {
	case "+":
		return bv.Add
	case "-":
		return bv.Sub
	case "*":
		return bv.Mul
	case "/":
		return either(signed, bv.Sdiv, bv.Div)
	case "%":
		return either(signed, bv.Srem, bv.Rem)
	case "&":
		return bv.And
	case "|":
		return bv.Or
	}
	return bv.Xor
}

func either(is bool, a, b int) int {
	if is {
		return a
	}
	return b
}

// shift makes both operands as wide as the wider one of the context and the
// second operand, so that no bit of the latter is lost. The bits that the first
// operand gets beyond its context are those that the operation shifts in.
func (r *resolver) shift(e ast.Expr) item {
	a := r.read(e.Args[0])
	b := r.read(e.Args[1])
	build := func(c context) Expr {
		op := shiftOp(e.Text, c.signed)
		width := max(c.width, b.width)
		first := wide(a.build(c), width, op == bv.Sar)
		second := wide(b.alone(), width, false)
		return part(two(op, first, second), 0, c.width)
	}
	return item{a.width, a.signed, total(a, b), build}
}

func shiftOp(sign string, signed bool) int {
	switch sign {
	case "<<", "<<<":
		return bv.Shl
	case ">>>":
		return either(signed, bv.Sar, bv.Shr)
	}
	return bv.Shr
}

func (r *resolver) comparison(e ast.Expr) item {
	a := r.read(e.Args[0])
	b := r.read(e.Args[1])
	c := context{max(a.width, b.width), a.signed && b.signed}
	return isolated(1, false, total(a, b), func() Expr { return compared(e.Text, c.signed, a.build(c), b.build(c)) })
}

// compared exchanges the operands of > and >=, for which bv has no operations.
func compared(sign string, signed bool, a, b Expr) Expr {
	less, most := either(signed, bv.Slt, bv.Ult), either(signed, bv.Sle, bv.Ule)
	switch sign {
	case "<":
		return two(less, a, b)
	case "<=":
		return two(most, a, b)
	case ">":
		return two(less, b, a)
	case ">=":
		return two(most, b, a)
	case "==":
		return two(bv.Eq, a, b)
	}
	return two(bv.Ne, a, b)
}

func (r *resolver) logical(e ast.Expr) item {
	a := r.read(e.Args[0])
	b := r.read(e.Args[1])
	op := either(e.Text == "&&", bv.And, bv.Or)
	return isolated(1, false, total(a, b), func() Expr { return two(op, truth(a.alone()), truth(b.alone())) })
}

func (r *resolver) choice(e ast.Expr) item {
	condition := r.read(e.Args[0])
	a := r.read(e.Args[1])
	b := r.read(e.Args[2])
	build := func(c context) Expr { return choose(condition.alone(), a.build(c), b.build(c)) }
	return item{max(a.width, b.width), a.signed && b.signed, total(condition, a, b), build}
}

// repeated reads the count first, as it is to the left of the operands.
func (r *resolver) repeated(e ast.Expr) item {
	count := r.constant(e.Args[0])
	if count < 1 {
		r.fail(e.Args[0], api.ErrRange)
	}
	return r.joined(e.Args[1:], count)
}

// joined reads operands that are joined, all of them count times. A width that
// is too great is counted as one more than there may be, as are the parts.
func (r *resolver) joined(operands []ast.Expr, count int) item {
	items := r.readAll(operands)
	sum := 0
	for _, x := range items {
		sum = min(sum+x.width, api.MaxWidth+1)
	}
	parts := min((total(items...)-1)*min(count, api.MaxWidth), api.MaxNodes) + 1
	return isolated(sum*count, false, parts, func() Expr {
		var list []Expr
		for range count {
			for _, x := range items {
				list = append(list, x.alone())
			}
		}
		return cat(list)
	})
}
