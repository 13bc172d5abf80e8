package typed

import "sluicegate/bv"

// The exported constructors copy what they are given, because results share no
// memory with arguments. The others are for expressions of the package's own,
// each of which becomes a part of only one other.

// Num returns a Const.
func Num(v bv.Vec) Expr { return Expr{Kind: Const, Width: v.Width(), Val: v} }

// Signal returns a Ref of the signal x, which has the number num.
func Signal(num int, x Sig) Expr { return Expr{Kind: Ref, Width: x.Width, Sig: num} }

// Part returns the given number of bits of e from bit lo on.
func Part(e Expr, lo, width int) Expr { return part(clone(e), lo, width) }

// Wide returns e with the given width.
func Wide(e Expr, width int, signed bool) Expr { return wide(clone(e), width, signed) }

// One returns an operation on e.
func One(op int, e Expr) Expr { return one(op, clone(e)) }

// Two returns an operation on a and b.
func Two(op int, a, b Expr) Expr { return two(op, clone(a), clone(b)) }

// Truth returns one bit that tells whether e is not 0.
func Truth(e Expr) Expr { return truth(clone(e)) }

// Choose returns a if c is not 0, and b otherwise.
func Choose(c, a, b Expr) Expr { return choose(clone(c), clone(a), clone(b)) }

func part(e Expr, lo, width int) Expr {
	if lo == 0 && width == e.Width {
		return e
	}
	return Expr{Kind: Slice, Width: width, Lo: lo, Args: []Expr{e}}
}

func wide(e Expr, width int, signed bool) Expr {
	if e.Width >= width {
		return part(e, 0, width)
	}
	return Expr{Kind: Ext, Width: width, Signed: signed, Args: []Expr{e}}
}

func one(op int, e Expr) Expr {
	width := 1
	if op == bv.Not || op == bv.Neg {
		width = e.Width
	}
	return Expr{Kind: Un, Op: op, Width: width, Args: []Expr{e}}
}

func two(op int, a, b Expr) Expr {
	width := a.Width
	if op >= bv.Eq {
		width = 1
	}
	return Expr{Kind: Bin, Op: op, Width: width, Args: []Expr{a, b}}
}

func truth(e Expr) Expr {
	if e.Width == 1 {
		return e
	}
	return one(bv.RedOr, e)
}

func choose(c, a, b Expr) Expr {
	return Expr{Kind: Mux, Width: a.Width, Args: []Expr{c, a, b}}
}

func word(num int, x Sig, at Expr) Expr {
	return Expr{Kind: Word, Width: x.Width, Sig: num, Args: []Expr{at}}
}

func pick(e, at Expr) Expr { return Expr{Kind: Pick, Width: 1, Args: []Expr{e, at}} }

func cat(list []Expr) Expr {
	width := 0
	for _, e := range list {
		width += e.Width
	}
	return Expr{Kind: Cat, Width: width, Args: list}
}
