package net_test

import (
	"fmt"
	"slices"
	"testing"

	"sluicegate/api"
	"sluicegate/bv"
	"sluicegate/net"
	"sluicegate/sample"
	"sluicegate/typed"
)

func vec(width int, n uint64) bv.Vec {
	v, _ := bv.New(width, n)
	return v
}

// show writes something without a difference between nil and empty lists.
func show(x any) string { return fmt.Sprintf("%+v", x) }

// The nodes that usual returns a netlist with.
const (
	a = iota // an input of 4 bits
	b        // an input of a bit
	q        // a register of 4 bits
	r        // a register of 8 bits
	count
)

// bare returns the usual netlist without nodes.
func bare() *net.Net {
	return &net.Net{
		Inputs: []net.Pin{{Name: "a", Width: 4}, {Name: "b", Width: 1}},
		Regs:   []net.Register{{Name: "q", Width: 4, Next: q}, {Name: "r", Width: 8, Next: r}},
		Mems:   []net.Mem{{Name: "m", Width: 4, Words: 3}, {Name: "w", Width: 8, Words: 2}},
	}
}

// leaves are the nodes a, b, q and r.
func leaves() []net.Node {
	return []net.Node{{Kind: net.In, Width: 4}, {Kind: net.In, Width: 1, Num: 1}, {Kind: net.Reg, Width: 4}, {Kind: net.Reg, Width: 8, Num: 1}}
}

// usual returns a netlist with the nodes a, b, q and r.
func usual(t *testing.T) *net.Net {
	t.Helper()
	n := bare()
	for i, x := range leaves() {
		mustAdd(t, n, x, i)
	}
	return n
}

// constant returns a Const.
func constant(width int, n uint64) net.Node {
	return net.Node{Kind: net.Const, Width: width, Val: vec(width, n)}
}

// wide returns an Ext of the node a.
func wide(width int) net.Node { return net.Node{Kind: net.Ext, Width: width, Args: []int{a}} }

// operation returns a node of a kind that has no other fields.
func operation(kind, width int, args ...int) net.Node {
	return net.Node{Kind: kind, Width: width, Args: args}
}

func un(op, width int, args ...int) net.Node {
	return net.Node{Kind: net.Un, Op: op, Width: width, Args: args}
}

func bin(op, width int, args ...int) net.Node {
	return net.Node{Kind: net.Bin, Op: op, Width: width, Args: args}
}

func mustAdd(t *testing.T, n *net.Net, x net.Node, want int) {
	t.Helper()
	i, err := n.Add(x)
	if err != api.OK || i != want || show(n.Nodes[i]) != show(x) {
		t.Fatalf("P17.1: %+v: node %d, not %d, error %d", x, i, want, err)
	}
}

// mustReject fails unless a node is not added because of an error.
func mustReject(t *testing.T, n *net.Net, x net.Node, want api.Errno) {
	t.Helper()
	before, text := len(n.Nodes), show(x)
	i, err := n.Add(x)
	if err != want || i != 0 || len(n.Nodes) != before || show(x) != text {
		t.Errorf("P17.1: %+v: node %d, error %d, not %d", x, i, err, want)
	}
}

// uses says how many Args the kinds have and which other fields they use.
var uses = map[int]struct {
	args   int
	fields string
}{
	net.Const: {0, "Val"}, net.In: {0, "Num"}, net.Reg: {0, "Num"}, net.Word: {1, "Num"}, net.Pick: {2, ""}, net.Slice: {1, "Lo"},
	net.Un: {1, "Op"}, net.Bin: {2, "Op"}, net.Mux: {3, ""}, net.Cat: {1, ""}, net.Ext: {1, "Signed"},
}

// isFormed reports whether the fields of a node are used as its kind requires.
func isFormed(x net.Node) bool {
	rule, found := uses[x.Kind]
	isSet := map[string]bool{"Op": x.Op != 0, "Num": x.Num != 0, "Lo": x.Lo != 0, "Signed": x.Signed, "Val": x.Val != bv.Vec{}}
	delete(isSet, rule.fields)
	for _, is := range isSet {
		found = found && !is
	}
	isLonger := x.Kind == net.Cat && len(x.Args) > 1
	ops := map[int]int{net.Un: bv.Zero, net.Bin: bv.Sle}
	return found && (len(x.Args) == rule.args || isLonger) && (rule.fields != "Op" || x.Op >= 0 && x.Op <= ops[x.Kind]) && (x.Kind != net.Const || x.Val != bv.Vec{})
}

// exprKinds are the kinds of expressions that compute the same.
var exprKinds = map[int]int{
	net.Const: typed.Const, net.In: typed.Ref, net.Reg: typed.Ref, net.Word: typed.Word, net.Pick: typed.Pick, net.Slice: typed.Slice,
	net.Un: typed.Un, net.Bin: typed.Bin, net.Mux: typed.Mux, net.Cat: typed.Cat, net.Ext: typed.Ext,
}

// exprOf returns the expression for a node whose Args have known values. What it
// refers to has the same number as a signal of a values.
func exprOf(x net.Node, args ...bv.Vec) typed.Expr {
	e := typed.Expr{Kind: exprKinds[x.Kind], Op: x.Op, Width: x.Width, Sig: x.Num, Lo: x.Lo, Signed: x.Signed, Val: x.Val}
	for _, v := range args {
		e.Args = append(e.Args, typed.Num(v))
	}
	return e
}

// errorOf returns the error of a node after the first so many nodes. Its width is
// that of the value that it has if all of its Args are 0.
func errorOf(n *net.Net, x net.Node, nodes int) api.Errno {
	if !isFormed(x) {
		return api.ErrInval
	}
	for _, i := range x.Args {
		if i < 0 || i >= nodes {
			return api.ErrRange
		}
	}
	lists := map[int]int{net.In: len(n.Inputs), net.Reg: len(n.Regs), net.Word: len(n.Mems)}
	if size, found := lists[x.Kind]; found && (x.Num < 0 || x.Num >= size) {
		return api.ErrRange
	}
	var args []bv.Vec
	for _, i := range x.Args {
		args = append(args, vec(n.Nodes[i].Width, 0))
	}
	want := 0
	switch x.Kind {
	case net.Const:
		want = x.Val.Width()
	case net.In:
		want = n.Inputs[x.Num].Width
	case net.Reg:
		want = n.Regs[x.Num].Width
	case net.Word:
		want = n.Mems[x.Num].Width
	case net.Slice:
		if last := float64(x.Lo) + float64(max(x.Width, 0)) - 1; x.Lo < 0 || last >= float64(args[0].Width()) {
			return api.ErrRange
		}
		want = x.Width
	case net.Mux:
		if args[1].Width() == args[2].Width() {
			want = args[1].Width()
		}
	default:
		want = typed.Value(exprOf(x), args...).Width()
	}
	if x.Width != want || want < 1 || want > api.MaxWidth {
		return api.ErrWidth
	}
	return api.OK
}

// odd returns a number that is often wrong.
func odd(pick sample.Choice) int {
	return []int{-1 << 63, -1, 0, 1, 2, 3, 4, 5, 8, 64, 127, 128, 129, 1 << 32, 1<<63 - 1}[pick(15)]
}

// changed returns a node with a field that is different.
func changed(x net.Node, pick sample.Choice) net.Node {
	x.Args = slices.Clone(x.Args)
	switch pick(10) {
	case 0:
		x.Kind = pick(net.Ext+3) - 1
	case 1:
		x.Op = pick(23) - 2
	case 2:
		x.Width = odd(pick)
	case 3:
		x.Num = odd(pick)
	case 4:
		x.Lo = odd(pick)
	case 5:
		x.Signed = !x.Signed
	case 6:
		x.Val = pick.Vec(1 + pick(4))
	case 7:
		x.Args = append(x.Args, pick(4))
	case 8:
		x.Args = x.Args[:pick(len(x.Args)+1)]
	default:
		if len(x.Args) > 0 {
			x.Args[pick(len(x.Args))] = odd(pick)
		}
	}
	return x
}
