package net

import (
	"sluicegate/bv"
	"sluicegate/typed"
)

// Values are those of inputs, registers and the words of memories.
type Values struct {
	Ins, Regs []bv.Vec
	Words     [][]bv.Vec
}

// exprKinds are the kinds of expressions that compute what nodes of these kinds
// do.
var exprKinds = [...]int{
	Pick: typed.Pick, Slice: typed.Slice, Un: typed.Un, Bin: typed.Bin, Mux: typed.Mux, Cat: typed.Cat, Ext: typed.Ext,
}

// Eval returns the value of each node.
func (n *Net) Eval(v Values) []bv.Vec {
	if n == nil {
		return nil
	}
	list := make([]bv.Vec, len(n.Nodes))
	for i, x := range n.Nodes {
		args := make([]bv.Vec, len(x.Args))
		for j, arg := range x.Args {
			args[j] = element(list[:i], arg)
		}
		list[i] = n.value(x, v, args)
	}
	return list
}

// value returns the value of a node, given those of its Args.
func (n *Net) value(x Node, v Values, args []bv.Vec) bv.Vec {
	switch x.Kind {
	case Const:
		return x.Val
	case In:
		return element(v.Ins, x.Num)
	case Reg:
		return element(v.Regs, x.Num)
	case Word:
		return n.word(x, element(v.Words, x.Num), element(args, 0))
	}
	if !within(x.Kind, len(exprKinds)) {
		return bv.Vec{}
	}
	return typed.Value(typed.Expr{Kind: exprKinds[x.Kind], Op: x.Op, Width: x.Width, Lo: x.Lo, Signed: x.Signed}, args...)
}

// word returns the word with a number, or 0 if there is none.
func (n *Net) word(x Node, words []bv.Vec, at bv.Vec) bv.Vec {
	count := min(element(n.Mems, x.Num).Words, len(words))
	if i := at.Num(len(words)); i < count {
		return words[i]
	}
	zero, _ := bv.New(x.Width)
	return zero
}

// element returns element i of a list, or nothing if there is none.
func element[T any](list []T, i int) T {
	if !within(i, len(list)) {
		var none T
		return none
	}
	return list[i]
}
