package net_test

import (
	"math/rand/v2"
	"slices"
	"testing"

	"sluicegate/api"
	"sluicegate/bv"
	"sluicegate/net"
	"sluicegate/sample"
)

func TestP17_1Numbers(t *testing.T) {
	for i, kind := range []int{net.Const, net.In, net.Reg, net.Word, net.Pick, net.Slice, net.Un, net.Bin, net.Mux, net.Cat, net.Ext} {
		if kind != i+1 {
			t.Errorf("P17.1: kind %d, not %d", kind, i+1)
		}
	}
}

// valid are nodes that can be added after the usual ones.
func valid() []net.Node {
	list := []net.Node{
		constant(1, 0), constant(1, 1), constant(4, 5), constant(5, 5), constant(4, 0), constant(api.MaxWidth, 5),
		{Kind: net.Word, Width: 4, Args: []int{a}}, {Kind: net.Word, Width: 4, Args: []int{b}}, {Kind: net.Word, Width: 8, Num: 1, Args: []int{a}},
		operation(net.Pick, 1, a, b), operation(net.Pick, 1, b, a), operation(net.Pick, 1, b, r),
		{Kind: net.Slice, Width: 4, Args: []int{a}}, {Kind: net.Slice, Width: 3, Args: []int{a}}, {Kind: net.Slice, Width: 3, Lo: 1, Args: []int{a}}, {Kind: net.Slice, Width: 1, Lo: 7, Args: []int{r}},
		operation(net.Mux, 4, b, a, q), operation(net.Mux, 4, r, q, a), operation(net.Mux, 8, b, r, r), operation(net.Mux, 1, b, b, b),
		operation(net.Cat, 4, a), operation(net.Cat, 8, r), operation(net.Cat, 8, a, q), operation(net.Cat, 8, q, a), operation(net.Cat, 17, a, b, q, r),
		{Kind: net.Cat, Width: api.MaxWidth, Args: slices.Repeat([]int{r}, 16)}, {Kind: net.Cat, Width: api.MaxWidth, Args: slices.Repeat([]int{b}, api.MaxWidth)},
		wide(1), wide(3), wide(4), wide(5), wide(api.MaxWidth), {Kind: net.Ext, Width: 5, Signed: true, Args: []int{a}},
	}
	for op := range bv.Zero + 1 {
		width := 1
		if op == bv.Not || op == bv.Neg {
			width = 8
		}
		list = append(list, un(op, width, r), un(op, 1, b))
	}
	for op := range bv.Sle + 1 {
		width := 1
		if op < bv.Eq {
			width = 4
		}
		list = append(list, bin(op, width, a, q), bin(op, width, q, a), bin(op, width, a, a), bin(op, 1, b, b))
	}
	return list
}

// TestP17_1Valid: all of these are different, and each one is found again.
func TestP17_1Valid(t *testing.T) {
	n := usual(t)
	for i, x := range valid() {
		mustAdd(t, n, x, count+i)
	}
	for i, x := range slices.Concat(leaves(), valid()) {
		mustAdd(t, n, x, i)
	}
	if size := count + len(valid()); len(n.Nodes) != size || n.Check() != api.OK {
		t.Errorf("P17.1: %d nodes, not %d, error %d", len(n.Nodes), size, n.Check())
	}
}

// TestP17_1NoArgs: nil and empty lists are the same.
func TestP17_1NoArgs(t *testing.T) {
	n := &net.Net{}
	x := constant(4, 5)
	mustAdd(t, n, x, 0)
	x.Args = []int{}
	mustAdd(t, n, x, 0)
	n = &net.Net{Nodes: []net.Node{x}}
	x.Args = nil
	mustAdd(t, n, x, 0)
}

// TestP17_1AnyNodes adds nodes to many netlists, again and again, and looks for
// equal ones in what was added.
func TestP17_1AnyNodes(t *testing.T) {
	pick := sample.Choice(rand.New(rand.NewPCG(17, 1)).IntN)
	again := 0
	for range 300 {
		from := pick.Net()
		n := *from
		n.Nodes = nil
		n = net.Net{Inputs: n.Inputs, Regs: n.Regs, Mems: n.Mems}
		var texts []string
		for range 3 {
			for _, x := range from.Nodes {
				i, err := n.Add(x)
				want := slices.Index(texts, show(x))
				if want < 0 {
					want = len(texts)
					texts = append(texts, show(x))
				} else {
					again++
				}
				if i != want || err != api.OK {
					t.Fatalf("P17.1: %+v is node %d, not %d, error %d", x, i, want, err)
				}
			}
		}
		for i, x := range n.Nodes {
			if show(x) != texts[i] {
				t.Fatalf("P17.1: node %d is %+v, not %s", i, x, texts[i])
			}
		}
		if len(n.Nodes) != len(texts) {
			t.Fatalf("P17.1: %d nodes, not %d", len(n.Nodes), len(texts))
		}
	}
	if again < 1000 {
		t.Errorf("P17.1: only %d nodes were equal", again)
	}
}

// TestP17_1ManyArgs: nodes with other Args are not equal, whatever the digits of
// these numbers are.
func TestP17_1ManyArgs(t *testing.T) {
	const size = 120
	n := &net.Net{}
	for i := range size {
		mustAdd(t, n, constant(8, uint64(i)), i)
	}
	for range 2 {
		for i := range size * size {
			mustAdd(t, n, operation(net.Pick, 1, i/size, i%size), size+i)
		}
	}
	mustAdd(t, n, operation(net.Cat, 24, 1, 11, 1), size+size*size)
	mustAdd(t, n, operation(net.Cat, 24, 11, 1, 1), size+size*size+1)
	mustAdd(t, n, operation(net.Cat, 24, 1, 1, 11), size+size*size+2)
	mustAdd(t, n, operation(net.Cat, 16, 111, 1), size+size*size+3)
}

// TestP17_1Memory: a net does not keep the Args that it is given, or change them.
func TestP17_1Memory(t *testing.T) {
	n := usual(t)
	args := []int{a, q, r, r}
	x := operation(net.Cat, 8, args[:2]...)
	mustAdd(t, n, x, count)
	args[0], args[1] = b, b
	mustAdd(t, n, operation(net.Cat, 8, a, q), count)
	mustAdd(t, n, operation(net.Cat, 2, args[:2]...), count+1)
	if show(args) != "[1 1 3 3]" {
		t.Errorf("P17.1: %v", args)
	}
}

// TestP17_1Copies: what is added to a copy is not in the net that was copied.
func TestP17_1Copies(t *testing.T) {
	n := usual(t)
	before := show(n.Nodes)
	later := *n
	mustAdd(t, &later, wide(5), count)
	mustAdd(t, &later, leaves()[r], r)
	last := later
	mustAdd(t, &last, wide(6), count+1)
	mustAdd(t, &last, wide(5), count)
	mustAdd(t, &last, wide(6), count+1)
	if show(n.Nodes) != before || len(later.Nodes) != count+1 || len(n.Eval(net.Values{})) != count || len(last.Cone(count+1)) != 2 {
		t.Errorf("P17.1: %v, %v", n.Nodes, later.Nodes)
	}
}

// TestP17_1ManyCopies: nets that were copied from the same one are independent
// of each other, whichever of them is used.
func TestP17_1ManyCopies(t *testing.T) {
	pick := sample.Choice(rand.New(rand.NewPCG(17, 2)).IntN)
	for range 200 {
		nets := []net.Net{*usual(t)}
		texts := [][]string{nil}
		for _, x := range nets[0].Nodes {
			texts[0] = append(texts[0], show(x))
		}
		for range 30 {
			i := pick(len(nets))
			if pick(4) == 0 {
				nets, texts = append(nets, nets[i]), append(texts, slices.Clone(texts[i]))
				continue
			}
			x := wide(1 + pick(6))
			want := slices.Index(texts[i], show(x))
			if want < 0 {
				want = len(texts[i])
				texts[i] = append(texts[i], show(x))
			}
			mustAdd(t, &nets[i], x, want)
		}
		for i, n := range nets {
			for j, x := range n.Nodes {
				if show(x) != texts[i][j] || len(n.Nodes) != len(texts[i]) {
					t.Fatalf("P17.1: net %d, node %d: %+v, not %s", i, j, x, texts[i][j])
				}
			}
		}
	}
}

// TestP17_1AssignedNodes: nodes that were assigned are found, and the memory in
// which they are is not changed.
func TestP17_1AssignedNodes(t *testing.T) {
	list := slices.Grow(leaves(), 10)
	first, second := bare(), bare()
	first.Nodes, second.Nodes = list, list
	mustAdd(t, first, wide(5), count)
	mustAdd(t, second, wide(6), count)
	mustAdd(t, first, leaves()[q], q)
	mustAdd(t, first, wide(5), count)
	mustAdd(t, second, wide(5), count+1)
	if spare := list[:count+1][count]; show(spare) != show(net.Node{}) {
		t.Errorf("P17.1: %+v in the spare capacity", spare)
	}
	later := bare()
	mustReject(t, later, net.Node{}, api.ErrInval)
	later.Nodes = leaves()
	mustAdd(t, later, leaves()[r], r)
	mustAdd(t, later, wide(5), count)
}

// TestP17_1EqualNodes: nodes that were assigned may be equal.
func TestP17_1EqualNodes(t *testing.T) {
	n := bare()
	n.Nodes = append(leaves(), leaves()...)
	n.Nodes = append(n.Nodes, wide(5), wide(5), wide(6))
	if err := n.Check(); err != api.OK {
		t.Errorf("P17.2: error %d", err)
	}
	for range 2 {
		for i, x := range leaves() {
			mustAdd(t, n, x, i)
		}
		mustAdd(t, n, wide(6), 2*count+2)
		mustAdd(t, n, wide(7), 2*count+3)
		mustAdd(t, n, wide(8), 2*count+4)
	}
}

// TestP17_1CurrentFields: inputs, registers and memories may be assigned at any
// time.
func TestP17_1CurrentFields(t *testing.T) {
	n := usual(t)
	in, reg := net.Node{Kind: net.In, Width: 7, Num: 2}, net.Node{Kind: net.Reg, Width: 9, Num: 2}
	word := net.Node{Kind: net.Word, Width: 6, Num: 2, Args: []int{a}}
	for _, x := range []net.Node{in, reg, word} {
		mustReject(t, n, x, api.ErrRange)
	}
	n.Inputs = append(n.Inputs, net.Pin{Width: 7})
	n.Regs = append(n.Regs, net.Register{Width: 9})
	n.Mems = append(n.Mems, net.Mem{Width: 6, Words: 1})
	for i, x := range []net.Node{in, reg, word} {
		mustAdd(t, n, x, count+i)
	}
	n.Inputs, n.Regs[2].Width, n.Mems = n.Inputs[:1], 8, nil
	mustReject(t, n, in, api.ErrRange)
	mustReject(t, n, reg, api.ErrWidth)
	mustReject(t, n, word, api.ErrRange)
	mustAdd(t, n, leaves()[a], a)
}

// TestP17_1Limit: a node that is equal to another one needs no room.
func TestP17_1Limit(t *testing.T) {
	n := &net.Net{}
	for i := range api.MaxNodes {
		mustAdd(t, n, constant(20, uint64(i)), i)
	}
	full := api.MaxNodes
	mustReject(t, n, constant(20, uint64(full)), api.ErrLimit)
	mustReject(t, n, constant(19, 0), api.ErrLimit)
	mustReject(t, n, net.Node{}, api.ErrInval)
	mustReject(t, n, un(bv.Not, 20, full), api.ErrRange)
	mustReject(t, n, un(bv.Not, 19, 0), api.ErrWidth)
	mustAdd(t, n, constant(20, 0), 0)
	mustAdd(t, n, constant(20, uint64(full-1)), full-1)
	if err := n.Check(); err != api.OK || len(n.Nodes) != full {
		t.Errorf("P17.2: error %d of %d nodes", err, len(n.Nodes))
	}
	more := &net.Net{Nodes: append(slices.Clone(n.Nodes), constant(3, 0))}
	mustAdd(t, more, constant(3, 0), full)
	mustAdd(t, more, constant(20, 0), 0)
	mustReject(t, more, constant(3, 1), api.ErrLimit)
	if err := more.Check(); err != api.OK {
		t.Errorf("P17.2: error %d: there is no limit for nodes that were assigned", err)
	}
}

// TestP17_1NoNet: the netlist of a result that has none.
func TestP17_1NoNet(t *testing.T) {
	var n *net.Net
	for _, x := range []struct {
		node net.Node
		want api.Errno
	}{{constant(4, 5), api.ErrLimit}, {net.Node{}, api.ErrInval}, {leaves()[a], api.ErrRange}} {
		if i, err := n.Add(x.node); i != 0 || err != x.want {
			t.Errorf("P17.1: %+v: node %d, error %d, not %d", x.node, i, err, x.want)
		}
	}
	if n.Check() != api.OK || len(n.Eval(net.Values{})) != 0 || len(n.Cone(0, -1)) != 0 {
		t.Error("P17.2 to P17.4: no netlist")
	}
}
