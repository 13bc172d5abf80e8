package sample

import (
	"sluicegate/api"
	"sluicegate/bv"
	"sluicegate/typed"
)

// Choice returns a number from 0 to n-1. Designs and vectors are made from what
// it returns, so that tests determine where that comes from.
type Choice func(n int) int

// one is true one of so many times.
func (pick Choice) one(of int) bool { return pick(of) == 0 }

// from returns an element of a list.
func (pick Choice) from(list ...int) int { return list[pick(len(list))] }

// Width returns a width. Most are small.
func (pick Choice) Width() int {
	if pick.one(6) {
		return pick.from(31, 32, 33, 63, 64, 65, 100, 127, api.MaxWidth)
	}
	return 1 + pick(5)
}

// Vec returns a vector of the given width. Many have few bits that are set, or
// few that are not.
func (pick Choice) Vec(width int) bv.Vec {
	bits := make([]bool, width)
	odds, isInverted := 2+pick(6), pick.one(2)
	for i := range bits {
		bits[i] = pick.one(odds) != isInverted
	}
	v, _ := bv.Of(bits...)
	return v
}

// exprs makes expressions of the signals with these numbers, and of parts of
// others.
type exprs struct {
	Choice
	sigs  []typed.Sig
	known []int
	parts []typed.Expr
}

// expr returns an expression of the given width.
func (m *exprs) expr(width, depth int) typed.Expr {
	if depth <= 0 || m.one(3) {
		return m.leaf(width, depth)
	}
	inner := m.Width()
	switch m.Choice(10) {
	case 0:
		return typed.One(m.from(bv.Not, bv.Neg), m.expr(width, depth-1))
	case 1, 2:
		return typed.Two(m.Choice(bv.Sar+1), m.expr(width, depth-1), m.expr(width, depth-1))
	case 3:
		return m.fit(typed.Two(bv.Eq+m.Choice(bv.Sle-bv.Eq+1), m.expr(inner, depth-1), m.expr(inner, depth-1)), width)
	case 4:
		return m.fit(typed.One(bv.RedAnd+m.Choice(bv.Zero-bv.RedAnd+1), m.expr(inner, depth-1)), width)
	case 5:
		return typed.Choose(m.expr(inner, depth-1), m.expr(width, depth-1), m.expr(width, depth-1))
	case 6:
		at := m.expr(1+m.Choice(4), depth-1)
		return m.fit(typed.Expr{Kind: typed.Pick, Width: 1, Args: []typed.Expr{m.expr(inner, depth-1), at}}, width)
	case 7:
		if width > 1 {
			high := 1 + m.Choice(width-1)
			return typed.Expr{Kind: typed.Cat, Width: width, Args: []typed.Expr{m.expr(high, depth-1), m.expr(width-high, depth-1)}}
		}
	}
	return m.fit(m.expr(inner, depth-1), width)
}

// leaf returns an expression of the given width without operations. A depth
// below 0 says how many words with an expression as their number contain it.
func (m *exprs) leaf(width, depth int) typed.Expr {
	at := m.Choice(len(m.known) + len(m.parts) + 1)
	switch {
	case depth < -2:
		return typed.Num(m.Vec(width))
	case at < len(m.known):
		return m.fit(m.read(m.known[at], depth), width)
	case at < len(m.known)+len(m.parts):
		return m.fit(m.parts[at-len(m.known)], width)
	}
	return typed.Num(m.Vec(width))
}

// read returns a signal, or a word of a memory.
func (m *exprs) read(sig, depth int) typed.Expr {
	x := m.sigs[sig]
	if x.Words == 0 {
		return typed.Signal(sig, x)
	}
	return typed.Expr{Kind: typed.Word, Width: x.Width, Sig: sig, Args: []typed.Expr{m.expr(1+m.Choice(3), min(depth, 1)-1)}}
}

// fit returns bits of e, or more than it has.
func (m *exprs) fit(e typed.Expr, width int) typed.Expr {
	if e.Width <= width {
		return typed.Wide(e, width, m.one(2))
	}
	return typed.Part(e, m.Choice(e.Width-width+1), width)
}
