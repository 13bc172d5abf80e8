package net_test

import (
	"math/rand/v2"
	"slices"
	"testing"

	"sluicegate/api"
	"sluicegate/bv"
	"sluicegate/net"
	"sluicegate/sample"
)

const (
	least = -1 << 63
	most  = 1<<63 - 1
)

// TestP17_1Forms: kinds, operations, numbers of Args, and fields that are not
// used.
func TestP17_1Forms(t *testing.T) {
	n := usual(t)
	for _, kind := range []int{least, -1, 0, net.Ext + 1, most} {
		mustReject(t, n, net.Node{Kind: kind, Width: 4}, api.ErrInval)
	}
	for _, op := range []int{least, -1, bv.Zero + 1, bv.Sle + 1, most} {
		mustReject(t, n, un(op, 4, a), api.ErrInval)
	}
	for _, op := range []int{least, -1, bv.Sle + 1, most} {
		mustReject(t, n, bin(op, 4, a, q), api.ErrInval)
	}
	for _, x := range []net.Node{{Kind: net.Const, Width: 4}, {Kind: net.Const}, {Kind: net.Const, Width: 4, Args: []int{a}}} {
		mustReject(t, n, x, api.ErrInval)
	}
	for kind, x := range uses {
		node := net.Node{Kind: kind, Width: 1, Args: slices.Repeat([]int{b}, x.args)}
		if kind <= net.Word {
			node.Width = 4
		}
		if kind == net.Const {
			node.Val = vec(4, 1)
		}
		if _, err := n.Add(node); err != api.OK {
			t.Errorf("P17.1: %+v: error %d", node, err)
		}
		more, fewer := node, node
		more.Args = append(slices.Clone(node.Args), b)
		if kind != net.Cat {
			mustReject(t, n, more, api.ErrInval)
		}
		if x.args > 0 {
			fewer.Args = node.Args[1:]
			mustReject(t, n, fewer, api.ErrInval)
		}
		for field, other := range map[string]func(x *net.Node){
			"Op": func(x *net.Node) { x.Op = 1 }, "Num": func(x *net.Node) { x.Num = 1 }, "Lo": func(x *net.Node) { x.Lo = 1 },
			"Signed": func(x *net.Node) { x.Signed = true }, "Val": func(x *net.Node) { x.Val = vec(1, 0) },
		} {
			if field != x.fields {
				y := node
				other(&y)
				mustReject(t, n, y, api.ErrInval)
			}
		}
	}
}

// TestP17_1Ranges: Args, numbers and bits that do not exist.
func TestP17_1Ranges(t *testing.T) {
	n := usual(t)
	for _, i := range []int{least, -1, count, count + 1, most} {
		for _, x := range []net.Node{
			{Kind: net.Word, Width: 4, Args: []int{i}}, operation(net.Pick, 1, i, a), operation(net.Pick, 1, a, i), {Kind: net.Slice, Width: 1, Args: []int{i}},
			un(bv.Not, 4, i), bin(bv.Add, 4, i, a), bin(bv.Add, 4, a, i), operation(net.Mux, 4, i, a, a), operation(net.Mux, 4, a, i, a), operation(net.Mux, 4, a, a, i),
			operation(net.Cat, 4, i), operation(net.Cat, 8, a, i), operation(net.Ext, 4, i),
		} {
			mustReject(t, n, x, api.ErrRange)
		}
	}
	for _, i := range []int{least, -1, 2, 3, most} {
		mustReject(t, n, net.Node{Kind: net.In, Width: 4, Num: i}, api.ErrRange)
		mustReject(t, n, net.Node{Kind: net.Reg, Width: 4, Num: i}, api.ErrRange)
		mustReject(t, n, net.Node{Kind: net.Word, Width: 4, Num: i, Args: []int{a}}, api.ErrRange)
	}
	for _, x := range []struct{ lo, width int }{
		{0, 5}, {1, 4}, {2, 3}, {3, 2}, {4, 1}, {5, 1}, {-1, 1}, {-1, 4}, {-1, 2}, {least, 1}, {most, 1}, {0, most}, {most, most}, {least, most}, {1, most}, {0, 129}, {-1, 0}, {5, 0},
	} {
		mustReject(t, n, net.Node{Kind: net.Slice, Lo: x.lo, Width: x.width, Args: []int{a}}, api.ErrRange)
	}
}

// TestP17_1Widths: widths that are wrong by themselves, or for what a node is.
func TestP17_1Widths(t *testing.T) {
	n := usual(t)
	n.Inputs = append(n.Inputs, net.Pin{Width: 0}, net.Pin{Width: 129}, net.Pin{Width: -1})
	big, _ := n.Add(wide(api.MaxWidth))
	for _, width := range []int{least, -1, 0, 2, 3, 5, 9, 127, api.MaxWidth, api.MaxWidth + 1, most} {
		list := []net.Node{
			{Kind: net.Const, Width: width, Val: vec(4, 5)}, {Kind: net.In, Width: width}, {Kind: net.In, Width: width, Num: 1}, {Kind: net.Reg, Width: width}, {Kind: net.Reg, Width: width, Num: 1},
			{Kind: net.Word, Width: width, Args: []int{a}}, {Kind: net.Word, Width: width, Num: 1, Args: []int{a}}, operation(net.Pick, width, a, a),
			operation(net.Mux, width, b, a, a), operation(net.Mux, width, a, b, b), operation(net.Cat, width, a), operation(net.Cat, width, a, q), operation(net.Cat, width, r, b, b),
			{Kind: net.Cat, Width: width, Args: []int{big, b}}, {Kind: net.Cat, Width: width, Args: slices.Repeat([]int{big}, 200)},
		}
		for op := range bv.Zero + 1 {
			list = append(list, un(op, width, a), un(op, width, b))
		}
		for op := range bv.Sle + 1 {
			list = append(list, bin(op, width, a, q), bin(op, width, b, b))
		}
		for _, x := range list {
			mustReject(t, n, x, api.ErrWidth)
		}
		if width < 1 || width > api.MaxWidth {
			mustReject(t, n, wide(width), api.ErrWidth)
		}
	}
	for _, width := range []int{least, -1, 0} {
		mustReject(t, n, net.Node{Kind: net.Slice, Width: width, Args: []int{a}}, api.ErrWidth)
		mustReject(t, n, net.Node{Kind: net.Slice, Width: width, Lo: 3, Args: []int{a}}, api.ErrWidth)
	}
	for i, width := range []int{0, 129, -1} {
		mustReject(t, n, net.Node{Kind: net.In, Width: width, Num: 2 + i}, api.ErrWidth)
	}
	for op := range bv.Sle + 1 {
		for _, width := range []int{1, 4, 8} {
			mustReject(t, n, bin(op, width, a, r), api.ErrWidth)
			mustReject(t, n, bin(op, width, r, a), api.ErrWidth)
		}
	}
	for _, width := range []int{4, 8} {
		mustReject(t, n, operation(net.Mux, width, b, a, r), api.ErrWidth)
		mustReject(t, n, operation(net.Mux, width, b, r, a), api.ErrWidth)
	}
}

// TestP17_1Order: which of several errors is returned.
func TestP17_1Order(t *testing.T) {
	n := usual(t)
	for _, x := range []struct {
		node net.Node
		want api.Errno
	}{
		{net.Node{Kind: net.Un, Op: 6, Width: 0, Args: []int{99}}, api.ErrInval},
		{net.Node{Kind: net.Un, Width: 0, Args: []int{99, 98}}, api.ErrInval},
		{net.Node{Kind: net.In, Width: 0, Num: 9, Lo: 1}, api.ErrInval},
		{net.Node{Kind: net.Cat}, api.ErrInval},
		{net.Node{Kind: net.Const, Width: 200}, api.ErrInval},
		{un(bv.Not, 0, 99), api.ErrRange},
		{bin(bv.Add, 300, a, 99), api.ErrRange},
		{bin(bv.Add, 4, 99, r), api.ErrRange},
		{net.Node{Kind: net.In, Width: 0, Num: 9}, api.ErrRange},
		{net.Node{Kind: net.Word, Width: 0, Num: 9, Args: []int{a}}, api.ErrRange},
		{net.Node{Kind: net.Word, Width: 0, Args: []int{99}}, api.ErrRange},
		{net.Node{Kind: net.Slice, Width: 200, Args: []int{a}}, api.ErrRange},
	} {
		mustReject(t, n, x.node, x.want)
	}
}

// TestP17_1AnyError compares the errors of nodes in which something was changed
// with those of a model.
func TestP17_1AnyError(t *testing.T) {
	pick := sample.Choice(rand.New(rand.NewPCG(17, 3)).IntN)
	errors := map[api.Errno]int{}
	for range 400 {
		n := pick.Net()
		for range 50 {
			x := n.Nodes[pick(len(n.Nodes))]
			for range 1 + pick(2) {
				x = changed(x, pick)
			}
			before := show(n.Nodes)
			want := errorOf(n, x, len(n.Nodes))
			i, err := n.Add(x)
			if err != want {
				t.Fatalf("P17.1: %+v: error %d, not %d\n%+v", x, err, want, n)
			}
			if err != api.OK && (i != 0 || show(n.Nodes) != before) || err == api.OK && show(n.Nodes[i]) != show(x) {
				t.Fatalf("P17.1: %+v: node %d\n%+v", x, i, n)
			}
			errors[err]++
		}
	}
	for _, err := range []api.Errno{api.OK, api.ErrInval, api.ErrRange, api.ErrWidth} {
		if errors[err] < 500 {
			t.Errorf("P17.1: error %d only %d times", err, errors[err])
		}
	}
}
