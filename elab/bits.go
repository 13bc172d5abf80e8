package elab

import (
	"slices"

	"sluicegate/api"
	"sluicegate/bv"
	"sluicegate/typed"
)

// tree is an expression, and its number of nodes, or one more than there may be
// if there are more. Trees share parts, so that they need little memory even if
// they have too many nodes.
type tree struct {
	expr  typed.Expr
	nodes int
}

// newTree returns e with args in place of its own.
func newTree(e typed.Expr, args ...*tree) *tree {
	e.Args = nil
	nodes := 1
	for _, arg := range args {
		e.Args = append(e.Args, arg.expr)
		nodes = min(nodes+arg.nodes, api.MaxNodes+1)
	}
	return &tree{e, nodes}
}

// tooLong returns a tree that has more nodes than there may be.
func tooLong(width int) *tree {
	t := &tree{typed.Num(vector(width, 0)), 1}
	for range api.MaxNodes {
		t = newTree(typed.Expr{Kind: typed.Un, Op: bv.Not, Width: width}, t)
	}
	return t
}

// bits is the value of a variable: parts of trees, the least significant first.
// Since each bit is known by itself, the setting of one of them does not make
// the trees of the others grow. No bits are ever changed.
type bits []piece

// piece is a part of a tree.
type piece struct {
	of        *tree
	lo, width int
}

func whole(t *tree) bits { return bits{{t, 0, t.expr.Width}} }

func (v bits) width() int {
	width := 0
	for _, p := range v {
		width += p.width
	}
	return width
}

// part returns width bits of v from bit lo on.
func (v bits) part(lo, width int) bits {
	var list bits
	for _, p := range v {
		from, to := max(lo, 0), min(lo+width, p.width)
		if from < to {
			list = append(list, piece{p.of, p.lo + from, to - from})
		}
		lo -= p.width
	}
	return list
}

// with returns v with other bits from bit lo on.
func (v bits) with(lo int, other bits) bits {
	return slices.Concat(v.part(0, lo), other, v.after(lo+other.width()))
}

// after returns v from bit lo on.
func (v bits) after(lo int) bits { return v.part(lo, v.width()-lo) }

// tree returns v as one tree.
func (v bits) tree() *tree {
	var trees []*tree
	for _, p := range slices.Backward(v) {
		trees = append(trees, p.tree())
	}
	if len(trees) == 1 {
		return trees[0]
	}
	return newTree(typed.Expr{Kind: typed.Cat, Width: v.width()}, trees...)
}

func (p piece) tree() *tree {
	if p.width == p.of.expr.Width {
		return p.of
	}
	return newTree(typed.Expr{Kind: typed.Slice, Width: p.width, Lo: p.lo}, p.of)
}

// chosen returns, for each variable, its bits in a if the condition is not 0,
// and those in b otherwise.
func chosen(condition *tree, a, b []bits) []bits {
	list := make([]bits, len(a))
	for i := range a {
		list[i] = chosenBits(condition, a[i], b[i])
	}
	return list
}

// chosenBits chooses only between those bits that differ.
func chosenBits(condition *tree, a, b bits) bits {
	if slices.Equal(a, b) {
		return a
	}
	var list bits
	for len(a) > 0 {
		width := min(a[0].width, b[0].width)
		x, y := a.part(0, width)[0], b.part(0, width)[0]
		if x != y {
			mux := newTree(typed.Expr{Kind: typed.Mux, Width: width}, condition, x.tree(), y.tree())
			x = piece{mux, 0, width}
		}
		list = append(list, x)
		a, b = a.after(width), b.after(width)
	}
	return list
}
