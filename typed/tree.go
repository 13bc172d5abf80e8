package typed

import "slices"

// Refs returns the numbers of all signals and memories in e, each once, in
// ascending order.
func Refs(e Expr) []int {
	var list []int
	walk(e, func(x Expr) {
		if x.Kind == Ref || x.Kind == Word {
			list = append(list, x.Sig)
		}
	})
	slices.Sort(list)
	return slices.Compact(list)
}

// Nodes returns the number of nodes of the tree.
func Nodes(e Expr) int {
	count := 0
	walk(e, func(Expr) { count++ })
	return count
}

// Subst returns e with args in place of the signals whose numbers are theirs.
func Subst(e Expr, args ...Expr) Expr {
	return replace(e, func(x Expr) (Expr, bool) {
		if x.Kind != Ref || x.Sig < 0 || x.Sig >= len(args) {
			return Expr{}, false
		}
		return clone(args[x.Sig]), true
	})
}

// clone returns a copy that shares no memory with e.
func clone(e Expr) Expr {
	return replace(e, func(Expr) (Expr, bool) { return Expr{}, false })
}

// walk visits e and all expressions in it.
func walk(e Expr, visit func(x Expr)) {
	visit(e)
	for _, arg := range e.Args {
		walk(arg, visit)
	}
}

// replace returns a copy of e with others in place of all expressions for which
// by has one.
func replace(e Expr, by func(x Expr) (Expr, bool)) Expr {
	if other, found := by(e); found {
		return other
	}
	e.Args = slices.Clone(e.Args)
	for i, arg := range e.Args {
		e.Args[i] = replace(arg, by)
	}
	return e
}
