package net_test

import (
	"math/rand/v2"
	"slices"
	"testing"

	"sluicegate/api"
	"sluicegate/bv"
	"sluicegate/net"
	"sluicegate/sample"
)

// mustCheck fails unless Check returns an error.
func mustCheck(t *testing.T, what string, n *net.Net, want api.Errno) {
	t.Helper()
	before := show(n)
	if err := n.Check(); err != want {
		t.Errorf("P17.2: %s: error %d, not %d", what, err, want)
	}
	if show(n) != before {
		t.Errorf("P17.2: %s: the netlist has changed", what)
	}
}

// full returns a netlist with one of everything.
func full(t *testing.T) *net.Net {
	n := usual(t)
	n.Regs[1].First = vec(8, 3)
	n.Mems[0].Ports = []net.Port{{On: r, At: b, Val: a}, {On: b, At: r, Val: q}}
	n.Mems[1].Ports = []net.Port{{On: a, At: a, Val: r}}
	n.Outs = []net.Out{{Name: "x", Node: b}, {Name: "y", Node: r}}
	n.Asserts = []net.Assert{{Name: "p", On: r, Is: a}, {Name: "p", On: b, Is: b}}
	return n
}

func TestP17_2Valid(t *testing.T) {
	mustCheck(t, "an empty netlist", &net.Net{}, api.OK)
	mustCheck(t, "one of everything", full(t), api.OK)
	mustCheck(t, "only memories", &net.Net{Inputs: []net.Pin{{}}, Mems: []net.Mem{{Width: 300, Words: -1}}}, api.OK)
	pick := sample.Choice(rand.New(rand.NewPCG(17, 4)).IntN)
	for range 300 {
		mustCheck(t, "any", pick.Net(), api.OK)
	}
}

// TestP17_2Nodes: the first node that is wrong determines the error.
func TestP17_2Nodes(t *testing.T) {
	inval, beyond, narrow := net.Node{Kind: 12}, un(bv.Not, 4, 99), un(bv.Not, 3, a)
	for _, x := range []struct {
		what string
		list []net.Node
		want api.Errno
	}{
		{"no kind", []net.Node{inval, beyond, narrow}, api.ErrInval},
		{"no such node", []net.Node{beyond, narrow, inval}, api.ErrRange},
		{"a wrong width", []net.Node{narrow, inval, beyond}, api.ErrWidth},
		{"the last one", append(valid(), narrow), api.ErrWidth},
		{"itself", []net.Node{un(bv.Not, 4, count)}, api.ErrRange},
		{"a later one", []net.Node{un(bv.Not, 4, count+1), un(bv.Not, 4, a)}, api.ErrRange},
		{"a later one in a Cat", []net.Node{operation(net.Cat, 8, a, count+1), un(bv.Not, 4, a)}, api.ErrRange},
		{"the one before", []net.Node{un(bv.Not, 4, a), un(bv.Not, 4, count)}, api.OK},
		{"a Num", []net.Node{{Kind: net.Word, Num: 2, Width: 4, Args: []int{a}}}, api.ErrRange},
		{"a field", []net.Node{{Kind: net.Pick, Num: 2, Width: 1, Args: []int{a, b}}}, api.ErrInval},
	} {
		n := full(t)
		n.Nodes = append(n.Nodes, x.list...)
		mustCheck(t, x.what, n, x.want)
		if x.want != api.OK {
			n.Regs[0].Next, n.Outs[0].Node = b, -1
			mustCheck(t, x.what+", with other errors", n, x.want)
		}
	}
}

// TestP17_2CurrentFields: what nodes refer to may have changed.
func TestP17_2CurrentFields(t *testing.T) {
	n := full(t)
	mustAdd(t, n, net.Node{Kind: net.Word, Width: 8, Num: 1, Args: []int{a}}, count)
	for _, x := range []struct {
		what   string
		change func(n *net.Net)
		want   api.Errno
	}{
		{"no inputs", func(n *net.Net) { n.Inputs = nil }, api.ErrRange},
		{"fewer inputs", func(n *net.Net) { n.Inputs = n.Inputs[:1] }, api.ErrRange},
		{"an input", func(n *net.Net) { n.Inputs[1].Width = 2 }, api.ErrWidth},
		{"fewer registers", func(n *net.Net) { n.Regs = n.Regs[:1] }, api.ErrRange},
		{"a register", func(n *net.Net) { n.Regs[1].Width = 7 }, api.ErrWidth},
		{"fewer memories", func(n *net.Net) { n.Mems = n.Mems[:1] }, api.ErrRange},
		{"a memory", func(n *net.Net) { n.Mems[1].Width = 7 }, api.ErrWidth},
		{"words", func(n *net.Net) { n.Mems[1].Words = 0 }, api.OK},
	} {
		other := *n
		other.Inputs, other.Regs, other.Mems = slices.Clone(n.Inputs), slices.Clone(n.Regs), slices.Clone(n.Mems)
		x.change(&other)
		mustCheck(t, x.what, &other, x.want)
	}
	mustCheck(t, "no change", n, api.OK)
}

// change is one that makes a valid netlist invalid, or not.
type change struct {
	what string
	to   func(n *net.Net, node int)
	want api.Errno // if the node has one bit
}

func changes() []change {
	return []change{
		{"Next", func(n *net.Net, i int) { n.Regs[0].Next = i }, api.ErrWidth},
		{"the last Next", func(n *net.Net, i int) { n.Regs[1].Next = i }, api.ErrWidth},
		{"Val", func(n *net.Net, i int) { n.Mems[0].Ports[0].Val = i }, api.ErrWidth},
		{"the second Val", func(n *net.Net, i int) { n.Mems[0].Ports[1].Val = i }, api.ErrWidth},
		{"Val of the last memory", func(n *net.Net, i int) { n.Mems[1].Ports[0].Val = i }, api.ErrWidth},
		{"On", func(n *net.Net, i int) { n.Mems[0].Ports[1].On = i }, api.OK},
		{"At", func(n *net.Net, i int) { n.Mems[1].Ports[0].At = i }, api.OK},
		{"an output", func(n *net.Net, i int) { n.Outs[1].Node = i }, api.OK},
		{"On of an assertion", func(n *net.Net, i int) { n.Asserts[1].On = i }, api.OK},
		{"Is", func(n *net.Net, i int) { n.Asserts[0].Is = i }, api.OK},
	}
}

// TestP17_2Ends: nodes that do not exist, and nodes of another width.
func TestP17_2Ends(t *testing.T) {
	for _, x := range changes() {
		for _, i := range []int{least, -1, count, most} {
			n := full(t)
			x.to(n, i)
			mustCheck(t, x.what, n, api.ErrRange)
			n.Regs[1].First = vec(7, 3)
			mustCheck(t, x.what+", and a wrong First", n, api.ErrWidth)
		}
		n := full(t)
		x.to(n, b)
		mustCheck(t, x.what, n, x.want)
		for _, y := range changes() {
			n := full(t)
			x.to(n, b)
			y.to(n, -1)
			want := api.ErrRange
			if x.want == api.ErrWidth && y.what != x.what {
				want = api.ErrWidth
			}
			mustCheck(t, x.what+", without "+y.what, n, want)
		}
	}
}

func TestP17_2First(t *testing.T) {
	for i, width := range []int{4, 8} {
		for size := range api.MaxWidth + 1 {
			n := full(t)
			n.Regs[i].First = vec(size, 1)
			want := api.ErrWidth
			if size == 0 || size == width {
				want = api.OK
			}
			mustCheck(t, "First", n, want)
		}
	}
	n := &net.Net{Regs: []net.Register{{Width: 4, First: vec(5, 0)}}}
	mustCheck(t, "First, without Next", n, api.ErrWidth)
	n.Regs[0].First = vec(4, 0)
	mustCheck(t, "no Next", n, api.ErrRange)
	n = &net.Net{Nodes: []net.Node{constant(4, 0)}, Regs: []net.Register{{Width: 0}}}
	mustCheck(t, "a register without a width", n, api.ErrWidth)
}

// TestP17_2AnyNet compares the errors of netlists in which some nodes were
// changed with those of a model.
func TestP17_2AnyNet(t *testing.T) {
	pick := sample.Choice(rand.New(rand.NewPCG(17, 5)).IntN)
	errors := map[api.Errno]int{}
	for range 5000 {
		n := pick.Net()
		for range 1 + pick(3) {
			i := pick(len(n.Nodes))
			n.Nodes[i] = changed(n.Nodes[i], pick)
		}
		want := api.OK
		for i, x := range n.Nodes {
			if want == api.OK {
				want = errorOf(n, x, i)
			}
		}
		err := n.Check()
		if want == api.OK && (err == api.ErrInval || err == api.ErrRange) || want != api.OK && err != want {
			t.Fatalf("P17.2: error %d, not %d\n%+v", err, want, n)
		}
		errors[want]++
	}
	for _, err := range []api.Errno{api.OK, api.ErrInval, api.ErrRange, api.ErrWidth} {
		if errors[err] < 200 {
			t.Errorf("P17.2: error %d only %d times", err, errors[err])
		}
	}
}
