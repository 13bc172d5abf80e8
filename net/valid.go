package net

import (
	"slices"

	"sluicegate/api"
	"sluicegate/bv"
)

// arity is the number of Args of each kind. A Cat may have more.
var arity = [...]int{Const: 0, In: 0, Reg: 0, Word: 1, Pick: 2, Slice: 1, Un: 1, Bin: 2, Mux: 3, Cat: 1, Ext: 1}

// examine returns the error of a node after the first count nodes of n.
func (n *Net) examine(x Node, count int) api.Errno {
	switch {
	case !isFormed(x):
		return api.ErrInval
	case !n.existsFor(x, count):
		return api.ErrRange
	case !n.hasWidth(x):
		return api.ErrWidth
	}
	return api.OK
}

// isFormed reports whether x is what its kind requires, whatever its Args and
// its Num are.
func isFormed(x Node) bool {
	if x.Kind < Const || x.Kind > Ext || len(x.Args) < arity[x.Kind] {
		return false
	}
	switch {
	case x.Kind != Cat && len(x.Args) > arity[x.Kind]:
		return false
	case x.Kind == Const && x.Val.Width() == 0:
		return false
	case x.Kind == Un && (x.Op < bv.Not || x.Op > bv.Zero):
		return false
	case x.Kind == Bin && (x.Op < bv.Add || x.Op > bv.Sle):
		return false
	}
	return fieldsOf(x) == used(x)
}

// used returns those fields of x that its kind uses.
func used(x Node) fields {
	f := fields{kind: x.Kind, width: x.Width}
	switch x.Kind {
	case Const:
		f.val = x.Val
	case In, Reg, Word:
		f.num = x.Num
	case Slice:
		f.lo = x.Lo
	case Un, Bin:
		f.op = x.Op
	case Ext:
		f.signed = x.Signed
	}
	return f
}

// existsFor reports whether there is all that x refers to, where only the first
// count nodes of n exist.
func (n *Net) existsFor(x Node, count int) bool {
	isMissing := func(i int) bool { return !within(i, count) }
	if slices.ContainsFunc(x.Args, isMissing) {
		return false
	}
	switch x.Kind {
	case In:
		return within(x.Num, len(n.Inputs))
	case Reg:
		return within(x.Num, len(n.Regs))
	case Word:
		return within(x.Num, len(n.Mems))
	case Slice:
		all := n.Nodes[x.Args[0]].Width
		return x.Lo >= 0 && x.Lo <= all-max(x.Width, 0)
	}
	return true
}

// hasWidth reports whether x has a width that a node can have, and whether that
// agrees with what it refers to.
func (n *Net) hasWidth(x Node) bool {
	width := func(i int) int { return n.Nodes[x.Args[i]].Width }
	if x.Width < 1 || x.Width > api.MaxWidth {
		return false
	}
	switch x.Kind {
	case Const:
		return x.Width == x.Val.Width()
	case In:
		return x.Width == n.Inputs[x.Num].Width
	case Reg:
		return x.Width == n.Regs[x.Num].Width
	case Word:
		return x.Width == n.Mems[x.Num].Width
	case Pick:
		return x.Width == 1
	case Un:
		return x.Width == resultWidth(x.Op > bv.Neg, width(0))
	case Bin:
		return width(0) == width(1) && x.Width == resultWidth(x.Op >= bv.Eq, width(0))
	case Mux:
		return width(1) == width(2) && x.Width == width(1)
	case Cat:
		return x.Width == n.totalWidth(x.Args)
	}
	return true
}

// resultWidth returns the width of an operation on operands of a width, the
// result of which may be a single bit.
func resultWidth(isBit bool, width int) int {
	if isBit {
		return 1
	}
	return width
}

func (n *Net) totalWidth(list []int) int {
	sum := 0
	for _, i := range list {
		sum += n.Nodes[i].Width
	}
	return sum
}

// hasWrongWidth reports whether registers or memories receive a value that has
// not their width. A node that does not exist has none that could be wrong.
func (n *Net) hasWrongWidth() bool {
	differs := func(i, width int) bool { return within(i, len(n.Nodes)) && n.Nodes[i].Width != width }
	for _, r := range n.Regs {
		if differs(r.Next, r.Width) || r.First.Width() != 0 && r.First.Width() != r.Width {
			return true
		}
	}
	for _, m := range n.Mems {
		if slices.ContainsFunc(m.Ports, func(p Port) bool { return differs(p.Val, m.Width) }) {
			return true
		}
	}
	return false
}

// lacksNode reports whether something that is no node refers to a node that does
// not exist.
func (n *Net) lacksNode() bool {
	var list []int
	for _, r := range n.Regs {
		list = append(list, r.Next)
	}
	for _, m := range n.Mems {
		for _, p := range m.Ports {
			list = append(list, p.On, p.At, p.Val)
		}
	}
	for _, o := range n.Outs {
		list = append(list, o.Node)
	}
	for _, a := range n.Asserts {
		list = append(list, a.On, a.Is)
	}
	return slices.ContainsFunc(list, func(i int) bool { return !within(i, len(n.Nodes)) })
}
