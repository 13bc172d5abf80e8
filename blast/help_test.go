package blast_test

import (
	"fmt"
	"math/rand/v2"
	"testing"

	"sluicegate/aig"
	"sluicegate/api"
	"sluicegate/blast"
	"sluicegate/bv"
	"sluicegate/net"
	"sluicegate/sample"
)

const (
	least = -1 << 63
	most  = 1<<63 - 1
)

func chooser(a, b uint64) sample.Choice { return rand.New(rand.NewPCG(a, b)).IntN }

func vec(width int, n uint64) bv.Vec {
	v, _ := bv.New(width, n)
	return v
}

// show writes something without a difference between nil and empty lists.
func show(x any) string { return fmt.Sprintf("%+v", x) }

// showGraph writes all nodes of a graph.
func showGraph(g *aig.Graph) string {
	text := fmt.Append(nil, g.Len(), g.Inputs(), ":")
	for i := range g.Len() {
		a, b, isAnd := g.Fan(i)
		text = fmt.Append(text, " ", a, b, isAnd)
	}
	return string(text)
}

// showNet writes all of a netlist that is exported.
func showNet(n *net.Net) string {
	if n == nil {
		return "none"
	}
	return show(n.Nodes) + show(n.Inputs) + show(n.Regs) + show(n.Mems) + show(n.Outs) + show(n.Asserts)
}

// showResult writes a result with what its pointer points to.
func showResult(r blast.Result) string {
	return showGraph(r.Graph) + show(r.Ins) + show(r.Regs) + show(r.Next) + show(r.Outs) + show(r.On) + show(r.Is)
}

// add returns the number of a node.
func add(t *testing.T, n *net.Net, x net.Node) int {
	t.Helper()
	i, err := n.Add(x)
	if err != api.OK {
		t.Fatalf("P17.1: %+v: error %d", x, err)
	}
	return i
}

// input adds an input and returns its node.
func input(t *testing.T, n *net.Net, width int) int {
	t.Helper()
	n.Inputs = append(n.Inputs, net.Pin{Name: fmt.Sprint("i", len(n.Inputs)), Width: width})
	return add(t, n, net.Node{Kind: net.In, Width: width, Num: len(n.Inputs) - 1})
}

// register adds a register that keeps its value, and returns its node.
func register(t *testing.T, n *net.Net, width int) int {
	t.Helper()
	n.Regs = append(n.Regs, net.Register{Name: fmt.Sprint("r", len(n.Regs)), Width: width})
	i := add(t, n, net.Node{Kind: net.Reg, Width: width, Num: len(n.Regs) - 1})
	n.Regs[len(n.Regs)-1].Next = i
	return i
}

// number returns the node of a constant.
func number(t *testing.T, n *net.Net, v bv.Vec) int {
	t.Helper()
	return add(t, n, net.Node{Kind: net.Const, Width: v.Width(), Val: v})
}

// wide returns the node of an Ext.
func wide(t *testing.T, n *net.Net, i, width int, signed bool) int {
	t.Helper()
	return add(t, n, net.Node{Kind: net.Ext, Width: width, Signed: signed, Args: []int{i}})
}

// un returns the node of an operation.
func un(t *testing.T, n *net.Net, op, x int) int {
	t.Helper()
	width := 1
	if op <= bv.Neg {
		width = n.Nodes[x].Width
	}
	return add(t, n, net.Node{Kind: net.Un, Op: op, Width: width, Args: []int{x}})
}

// bin returns the node of an operation.
func bin(t *testing.T, n *net.Net, op, x, y int) int {
	t.Helper()
	width := 1
	if op <= bv.Sar {
		width = n.Nodes[x].Width
	}
	return add(t, n, net.Node{Kind: net.Bin, Op: op, Width: width, Args: []int{x, y}})
}

// out makes a node an output.
func out(n *net.Net, node int) {
	n.Outs = append(n.Outs, net.Out{Name: fmt.Sprint("o", len(n.Outs)), Node: node})
}

// mustBlast returns a result that has everything that the netlist has, and leaves
// the netlist as it is.
func mustBlast(t *testing.T, n *net.Net) blast.Result {
	t.Helper()
	before := showNet(n)
	r, err := blast.Blast(n)
	if err != api.OK || r.Graph == nil {
		t.Fatalf("P22.1: error %d\n%s", err, before)
	}
	if showNet(n) != before {
		t.Fatalf("P22.1: the netlist has changed\n%s", before)
	}
	if len(r.Next) != len(n.Regs) || len(r.Outs) != len(n.Outs) || len(r.On) != len(n.Asserts) || len(r.Is) != len(n.Asserts) {
		t.Fatalf("P22.1: %s\n%s", showResult(r), before)
	}
	for i, x := range n.Regs {
		if len(r.Next[i]) != x.Width {
			t.Fatalf("P22.1: next value %d has the literals %v\n%s", i, r.Next[i], before)
		}
	}
	for i, x := range n.Outs {
		if len(r.Outs[i]) != n.Nodes[x.Node].Width {
			t.Fatalf("P22.1: output %d has the literals %v\n%s", i, r.Outs[i], before)
		}
	}
	mustBeOrdered(t, n, r)
	return r
}

// mustBeOrdered fails unless the inputs of the graph are the bits of inputs and,
// after these, those of registers.
func mustBeOrdered(t *testing.T, n *net.Net, r blast.Result) {
	t.Helper()
	var order []int
	for i := 1; i < r.Graph.Len(); i++ {
		if _, _, isAnd := r.Graph.Fan(i); !isAnd {
			order = append(order, 2*i)
		}
	}
	if len(r.Ins) != len(n.Inputs) || len(r.Regs) != len(n.Regs) || len(order) != r.Graph.Inputs() {
		t.Fatalf("P22.3: %s\n%s", showResult(r), showNet(n))
	}
	take := func(list []int, width int) {
		t.Helper()
		width = max(width, 0)
		if len(order) < width || show(list) != show(order[:width]) {
			t.Fatalf("P22.3: the literals %v, not the first %d of %v\n%s", list, width, order, showNet(n))
		}
		order = order[width:]
	}
	for i, x := range n.Inputs {
		take(r.Ins[i], x.Width)
	}
	for i, x := range n.Regs {
		take(r.Regs[i], x.Width)
	}
	if len(order) > 0 {
		t.Fatalf("P22.3: there are more inputs, %v\n%s", order, showNet(n))
	}
}

// bitsOf returns the bits of vectors, one after the other.
func bitsOf(list ...bv.Vec) []bool {
	var bits []bool
	for _, v := range list {
		bits = append(bits, v.Bits()...)
	}
	return bits
}

// textOf writes the values of literals as bv does.
func textOf(vals []bool, lits []int) string {
	digits := make([]byte, len(lits))
	for i, lit := range lits {
		digits[len(lits)-1-i] = '0'
		if aig.Is(vals, lit) {
			digits[len(lits)-1-i] = '1'
		}
	}
	return string(digits)
}

// mustAgree fails unless the graph computes what the netlist does.
func mustAgree(t *testing.T, n *net.Net, r blast.Result, v net.Values) {
	t.Helper()
	nodes := n.Eval(v)
	vals := r.Graph.Eval(append(bitsOf(v.Ins...), bitsOf(v.Regs...)...)...)
	check := func(what string, i int, lits []int, want bv.Vec) {
		t.Helper()
		if text := textOf(vals, lits); text != want.Text() {
			t.Fatalf("P22.1: %s %d is %s, not %s, for %v\n%s", what, i, text, want.Text(), v, showNet(n))
		}
	}
	for i, x := range v.Ins {
		check("input", i, r.Ins[i], x)
	}
	for i, x := range n.Regs {
		check("register", i, r.Regs[i], v.Regs[i])
		check("next value", i, r.Next[i], nodes[x.Next])
	}
	for i, x := range n.Outs {
		check("output", i, r.Outs[i], nodes[x.Node])
	}
	for i, x := range n.Asserts {
		on, _ := bv.Un(bv.RedOr, nodes[x.On])
		is, _ := bv.Un(bv.RedOr, nodes[x.Is])
		check("On", i, r.On[i:i+1], on)
		check("Is", i, r.Is[i:i+1], is)
	}
}

// mustAgreeAlways blasts a netlist, and compares both for all values of its inputs.
func mustAgreeAlways(t *testing.T, n *net.Net) {
	t.Helper()
	r := mustBlast(t, n)
	width := 0
	for _, x := range n.Inputs {
		width += x.Width
	}
	for all := range uint64(1) << width {
		var v net.Values
		for _, x := range n.Inputs {
			v.Ins = append(v.Ins, vec(x.Width, all))
			all >>= x.Width
		}
		mustAgree(t, n, r, v)
	}
}
