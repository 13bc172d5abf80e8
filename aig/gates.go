package aig

import "sluicegate/api"

// Or returns the disjunction of two literals.
func (g *Graph) Or(a, b int) (int, api.Errno) {
	return g.build(func(and gate) int { return and.or(a, b) }, a, b)
}

// Xor returns the exclusive disjunction of two literals.
func (g *Graph) Xor(a, b int) (int, api.Errno) {
	return g.build(func(and gate) int { return and(and.or(a, b), Not(and(a, b))) }, a, b)
}

// Mux returns a if c is true, and b otherwise.
func (g *Graph) Mux(c, a, b int) (int, api.Errno) {
	return g.build(func(and gate) int {
		switch {
		case a == b:
			return a
		case a == c || a == Yes:
			return and.or(c, b)
		case b == Not(c) || b == Yes:
			return and.or(Not(c), a)
		}
		return and.or(and(c, a), and(Not(c), b))
	}, c, a, b)
}

// gate returns the AND of two literals.
type gate func(a, b int) int

func (and gate) or(a, b int) int { return Not(and(Not(a), Not(b))) }

// build returns the literal that steps makes of lits with ANDs. After an error,
// none of these ANDs remains.
func (g *Graph) build(steps func(and gate) int, lits ...int) (int, api.Errno) {
	if !g.has(lits...) {
		return 0, api.ErrRange
	}
	size, first := g.Len(), api.OK
	lit := steps(func(a, b int) int {
		both, err := g.And(a, b)
		if first == api.OK {
			first = err
		}
		return both
	})
	if first != api.OK {
		g.shrink(size)
		return 0, first
	}
	return lit, api.OK
}

// shrink removes all nodes but the first ones. Those that it removes are ANDs.
func (g *Graph) shrink(size int) {
	for _, f := range g.fans[size:] {
		delete(g.ands, f)
	}
	g.fans = g.fans[:size]
}
