package synth

import (
	"slices"

	"sluicegate/api"
	"sluicegate/bv"
	"sluicegate/flat"
	"sluicegate/net"
	"sluicegate/typed"
)

const (
	// none is the node of a signal without a value, or of a memory.
	none = -1
	// always is the condition of statements that are not in an If.
	always = -1
)

// builder makes the netlist of a design. It keeps the first error, after which no
// nodes are added.
type builder struct {
	design            flat.Design
	roles, regs, mems []int
	net               *net.Net
	numbers           map[int]int // of the memories
	now               []int       // the node of each signal at the current statement
	later             []int       // the node that each Reg will receive
	err               api.Errno
}

// newBuilder returns a builder that has no nodes but those of inputs and
// registers.
func newBuilder(d flat.Design, roles []int) *builder {
	b := &builder{design: d, roles: roles, net: &net.Net{}, numbers: map[int]int{}}
	b.regs = b.with(func(role int) bool { return role == flat.Reg || role == flat.Temp })
	b.mems = b.with(func(role int) bool { return role == flat.Memory })
	b.now = slices.Repeat([]int{none}, len(d.Sigs))
	b.addInputs()
	b.addRegs()
	b.addMems()
	b.later = slices.Clone(b.now)
	return b
}

func (b *builder) addInputs() {
	for i, sig := range b.design.Inputs {
		if !b.has(sig) {
			b.fail(api.ErrRange)
			return
		}
		x := b.design.Sigs[sig]
		b.net.Inputs = append(b.net.Inputs, net.Pin{Name: x.Name, Width: x.Width})
		b.now[sig] = b.add(net.Node{Kind: net.In, Width: x.Width, Num: i})
	}
}

func (b *builder) addRegs() {
	first := make([]bv.Vec, len(b.design.Sigs))
	for _, x := range b.design.Starts {
		first[x.Sig] = x.Val
	}
	for i, sig := range b.regs {
		x := b.design.Sigs[sig]
		b.net.Regs = append(b.net.Regs, net.Register{Name: x.Name, Width: x.Width, First: first[sig]})
		b.now[sig] = b.add(net.Node{Kind: net.Reg, Width: x.Width, Num: i})
	}
}

func (b *builder) addMems() {
	for i, sig := range b.mems {
		x := b.design.Sigs[sig]
		b.net.Mems = append(b.net.Mems, net.Mem{Name: x.Name, Width: x.Width, Words: x.Words})
		b.numbers[sig] = i
	}
}

// with returns the signals whose role meets a condition, in ascending order.
func (b *builder) with(isMeant func(role int) bool) []int {
	var list []int
	for sig, role := range b.roles {
		if isMeant(role) {
			list = append(list, sig)
		}
	}
	return list
}

func (b *builder) has(sig int) bool { return sig >= 0 && sig < len(b.design.Sigs) }

func (b *builder) fail(err api.Errno) {
	if b.err == api.OK {
		b.err = err
	}
}

// add returns the number of a node, or none after an error.
func (b *builder) add(x net.Node) int {
	if b.err != api.OK {
		return none
	}
	i, err := b.net.Add(x)
	if err != api.OK {
		b.fail(err)
		return none
	}
	return i
}

// width returns the width of a node, or 0 if there is none.
func (b *builder) width(i int) int {
	if i == none {
		return 0
	}
	return b.net.Nodes[i].Width
}

// nodeKinds are the kinds of nodes that compute what expressions of these kinds
// do. There is none for a Ref, which is the node of its signal.
var nodeKinds = [...]int{
	typed.Const: net.Const, typed.Word: net.Word, typed.Pick: net.Pick, typed.Slice: net.Slice, typed.Un: net.Un,
	typed.Bin: net.Bin, typed.Mux: net.Mux, typed.Cat: net.Cat, typed.Ext: net.Ext,
}

// expr returns the node of an expression at the current statement.
func (b *builder) expr(e typed.Expr) int {
	switch {
	case b.err != api.OK:
		return none
	case e.Kind == typed.Ref:
		return b.signal(e.Sig)
	case e.Kind < 0 || e.Kind >= len(nodeKinds):
		b.fail(api.ErrInval)
		return none
	}
	args := make([]int, len(e.Args))
	for i, arg := range e.Args {
		args[i] = b.expr(arg)
	}
	x := net.Node{Kind: nodeKinds[e.Kind], Op: e.Op, Width: e.Width, Num: e.Sig, Lo: e.Lo, Signed: e.Signed, Val: e.Val, Args: args}
	if e.Kind == typed.Word {
		x.Num = b.memory(e.Sig)
	}
	return b.add(x)
}

// signal returns the node of a signal at the current statement. It may be none
// only if the design is not valid, and is then rejected wherever it is used.
func (b *builder) signal(sig int) int {
	if !b.has(sig) {
		b.fail(api.ErrRange)
		return none
	}
	return b.now[sig]
}

// memory returns the number of a memory.
func (b *builder) memory(sig int) int {
	i, found := b.numbers[sig]
	if !found {
		b.fail(api.ErrRange)
	}
	return i
}
