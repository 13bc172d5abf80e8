package synth

import (
	"slices"

	"sluicegate/api"
	"sluicegate/bv"
	"sluicegate/flat"
	"sluicegate/maker"
	"sluicegate/net"
	"sluicegate/typed"
)

// builder makes the netlist of a design. A signal without a value, and a memory,
// has the node maker.None.
type builder struct {
	maker.Maker
	design            flat.Design
	roles, regs, mems []int
	numbers           map[int]int // of the memories
	now               []int       // the node of each signal at the current statement
	later             []int       // the node that each Reg will receive
}

// newBuilder returns a builder that has no nodes but those of inputs and
// registers.
func newBuilder(d flat.Design, roles []int) *builder {
	b := &builder{Maker: maker.Maker{Net: &net.Net{}}, design: d, roles: roles, numbers: map[int]int{}}
	b.regs = b.with(func(role int) bool { return role == flat.Reg || role == flat.Temp })
	b.mems = b.with(func(role int) bool { return role == flat.Memory })
	b.now = slices.Repeat([]int{maker.None}, len(d.Sigs))
	b.addInputs()
	b.addRegs()
	b.addMems()
	b.later = slices.Clone(b.now)
	return b
}

func (b *builder) addInputs() {
	for i, sig := range b.design.Inputs {
		if !b.has(sig) {
			b.Fail(api.ErrRange)
			return
		}
		x := b.design.Sigs[sig]
		b.Net.Inputs = append(b.Net.Inputs, net.Pin{Name: x.Name, Width: x.Width})
		b.now[sig] = b.Add(net.Node{Kind: net.In, Width: x.Width, Num: i})
	}
}

func (b *builder) addRegs() {
	first := make([]bv.Vec, len(b.design.Sigs))
	for _, x := range b.design.Starts {
		first[x.Sig] = x.Val
	}
	for _, sig := range b.regs {
		x := b.design.Sigs[sig]
		b.now[sig] = b.Register(net.Register{Name: x.Name, Width: x.Width, First: first[sig]})
	}
}

func (b *builder) addMems() {
	for i, sig := range b.mems {
		x := b.design.Sigs[sig]
		b.Net.Mems = append(b.Net.Mems, net.Mem{Name: x.Name, Width: x.Width, Words: x.Words})
		b.numbers[sig] = i
	}
}

// with returns the signals whose role meets a condition, in ascending order.
func (b *builder) with(isMeant func(role int) bool) []int {
	var list []int
	for sig, role := range b.roles {
		if isMeant(role) {
			list = append(list, sig)
		}
	}
	return list
}

func (b *builder) has(sig int) bool { return sig >= 0 && sig < len(b.design.Sigs) }

// nodeKinds are the kinds of nodes that compute what expressions of these kinds
// do. There is none for a Ref, which is the node of its signal.
var nodeKinds = [...]int{
	typed.Const: net.Const, typed.Word: net.Word, typed.Pick: net.Pick, typed.Slice: net.Slice, typed.Un: net.Un,
	typed.Bin: net.Bin, typed.Mux: net.Mux, typed.Cat: net.Cat, typed.Ext: net.Ext,
}

// expr returns the node of an expression at the current statement.
func (b *builder) expr(e typed.Expr) int {
	switch {
	case b.Err != api.OK:
		return maker.None
	case e.Kind == typed.Ref:
		return b.signal(e.Sig)
	case e.Kind < 0 || e.Kind >= len(nodeKinds):
		b.Fail(api.ErrInval)
		return maker.None
	}
	args := make([]int, len(e.Args))
	for i, arg := range e.Args {
		args[i] = b.expr(arg)
	}
	x := net.Node{Kind: nodeKinds[e.Kind], Op: e.Op, Width: e.Width, Num: e.Sig, Lo: e.Lo, Signed: e.Signed, Val: e.Val, Args: args}
	if e.Kind == typed.Word {
		x.Num = b.memory(e.Sig)
	}
	return b.Add(x)
}

// signal returns the node of a signal at the current statement. It may be None
// only if the design is not valid, and is then rejected wherever it is used.
func (b *builder) signal(sig int) int {
	if !b.has(sig) {
		b.Fail(api.ErrRange)
		return maker.None
	}
	return b.now[sig]
}

// memory returns the number of a memory.
func (b *builder) memory(sig int) int {
	i, found := b.numbers[sig]
	if !found {
		b.Fail(api.ErrRange)
	}
	return i
}
