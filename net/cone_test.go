package net_test

import (
	"math/rand/v2"
	"slices"
	"testing"

	"sluicegate/api"
	"sluicegate/bv"
	"sluicegate/net"
	"sluicegate/sample"
)

// coneOf returns nodes and all those on which they depend.
func coneOf(n *net.Net, list []int) []int {
	var cone []int
	for _, i := range list {
		if i >= 0 && i < len(n.Nodes) && !slices.Contains(cone, i) {
			cone = append(cone, i)
		}
	}
	for at := 0; at < len(cone); at++ {
		for _, i := range n.Nodes[cone[at]].Args {
			if !slices.Contains(cone, i) {
				cone = append(cone, i)
			}
		}
	}
	slices.Sort(cone)
	return cone
}

// others returns other values for what is not in a cone. Words are read if there
// is a Word of their memory.
func others(n *net.Net, cone []int, v net.Values, pick sample.Choice) net.Values {
	o := pick.Values(n)
	for _, i := range cone {
		switch x := n.Nodes[i]; x.Kind {
		case net.In:
			o.Ins[x.Num] = v.Ins[x.Num]
		case net.Reg:
			o.Regs[x.Num] = v.Regs[x.Num]
		case net.Word:
			o.Words[x.Num] = v.Words[x.Num]
		}
	}
	return o
}

// TestP17_4AnyCone: it is that of a model, and nothing else has an influence.
func TestP17_4AnyCone(t *testing.T) {
	pick := sample.Choice(rand.New(rand.NewPCG(17, 8)).IntN)
	smaller := 0
	for range 3000 {
		n := pick.Net()
		var list []int
		for range pick(4) {
			list = append(list, pick(len(n.Nodes)))
		}
		if pick(3) == 0 {
			list = append(list, []int{least, -1, len(n.Nodes), most}[pick(4)])
			list = append(list, list...)
		}
		text := show(list)
		cone := n.Cone(list...)
		if show(cone) != show(coneOf(n, list)) || show(list) != text {
			t.Fatalf("P17.4: %v of %v, not %v\n%+v", cone, list, coneOf(n, list), n.Nodes)
		}
		v := pick.Values(n)
		before, after := n.Eval(v), n.Eval(others(n, cone, v, pick))
		for _, i := range cone {
			if before[i] != after[i] {
				t.Fatalf("P17.4: node %d depends on more than %v\n%+v", i, cone, n.Nodes)
			}
		}
		if len(cone) < len(n.Nodes)/2 {
			smaller++
		}
	}
	if smaller < 500 {
		t.Errorf("P17.4: only %d cones are small", smaller)
	}
}

func TestP17_4Cones(t *testing.T) {
	n := usual(t)
	mustAdd(t, n, bin(bv.Add, 4, q, a), count)
	mustAdd(t, n, operation(net.Mux, 4, b, count, q), count+1)
	mustAdd(t, n, net.Node{Kind: net.Word, Width: 4, Args: []int{r}}, count+2)
	mustAdd(t, n, constant(4, 1), count+3)
	mustAdd(t, n, un(bv.Not, 4, count+1), count+4)
	for _, x := range []struct {
		list []int
		want string
	}{
		{nil, "[]"}, {[]int{a}, "[0]"}, {[]int{r, a}, "[0 3]"}, {[]int{count}, "[0 2 4]"}, {[]int{count + 1}, "[0 1 2 4 5]"}, {[]int{count + 2}, "[3 6]"}, {[]int{count + 3}, "[7]"},
		{[]int{count + 4}, "[0 1 2 4 5 8]"}, {[]int{count + 4, count, count + 4, -1, 9, q}, "[0 1 2 4 5 8]"}, {[]int{-1, 9, least, most}, "[]"},
	} {
		if cone := n.Cone(x.list...); show(cone) != x.want {
			t.Errorf("P17.4: %v: %v, not %s", x.list, cone, x.want)
		}
	}
	n.Regs[0].Next = count + 2
	cone := n.Cone(q)
	if show(cone) != "[2]" {
		t.Errorf("P17.4: a register does not depend on what it will receive: %v", cone)
	}
	cone[0] = 99
	if again := n.Cone(q); show(again) != "[2]" || n.Check() != api.OK {
		t.Errorf("P17.4: %v", again)
	}
}

// TestP17_4Deep: a long chain.
func TestP17_4Deep(t *testing.T) {
	n, last := usual(t), a
	for i := range api.MaxNodes - count {
		mustAdd(t, n, bin(bv.Add, 4, q, last), count+i)
		last = count + i
	}
	if cone := n.Cone(last); len(cone) != api.MaxNodes-count+2 || cone[1] != q {
		t.Errorf("P17.4: %d nodes", len(cone))
	}
	ones := net.Values{Ins: []bv.Vec{vec(4, 1), vec(1, 1)}, Regs: []bv.Vec{vec(4, 1), vec(8, 1)}}
	if list := n.Eval(ones); list[last].Num(99) != (last-count+2)%16 {
		t.Errorf("P17.3: %s", list[last].Text())
	}
}
