package net_test

import (
	"math/rand/v2"
	"slices"
	"testing"

	"sluicegate/api"
	"sluicegate/bv"
	"sluicegate/net"
	"sluicegate/sample"
	"sluicegate/typed"
)

// state gives the values of inputs or of registers to typed.Eval.
type state struct {
	list  []bv.Vec
	words [][]bv.Vec
}

func (s state) Sig(n int) bv.Vec { return s.list[n] }

func (s state) Word(n, at int) bv.Vec {
	if at >= len(s.words[n]) {
		return vec(s.words[n][0].Width(), 0)
	}
	return s.words[n][at]
}

// TestP17_3AnyNet compares each node with an expression of the values of its
// Args.
func TestP17_3AnyNet(t *testing.T) {
	pick := sample.Choice(rand.New(rand.NewPCG(17, 6)).IntN)
	for range 2000 {
		n := pick.Net()
		v := pick.Values(n)
		text := show(v)
		list := n.Eval(v)
		for i, x := range n.Nodes {
			var args []bv.Vec
			for _, arg := range x.Args {
				args = append(args, list[arg])
			}
			s := state{v.Ins, v.Words}
			if x.Kind == net.Reg {
				s.list = v.Regs
			}
			if want := typed.Eval(exprOf(x, args...), s); list[i] != want {
				t.Fatalf("P17.3: node %d, %+v of %v: %s, not %s", i, x, args, list[i].Text(), want.Text())
			}
		}
		if len(list) != len(n.Nodes) || show(v) != text {
			t.Fatalf("P17.3: %d values of %d nodes", len(list), len(n.Nodes))
		}
	}
}

// TestP17_3Nodes: one node of each kind, with known values.
func TestP17_3Nodes(t *testing.T) {
	v := net.Values{
		Ins:   []bv.Vec{vec(4, 0b1010), vec(1, 1)},
		Regs:  []bv.Vec{vec(4, 0b0110), vec(8, 0b10010001)},
		Words: [][]bv.Vec{{vec(4, 1), vec(4, 2), vec(4, 3)}, {vec(8, 100), vec(8, 200)}},
	}
	for _, x := range []struct {
		node net.Node
		want string
	}{
		{leaves()[a], "1010"}, {leaves()[b], "1"}, {leaves()[q], "0110"}, {leaves()[r], "10010001"},
		{constant(5, 9), "01001"},
		{net.Node{Kind: net.Word, Width: 4, Args: []int{b}}, "0010"}, {net.Node{Kind: net.Word, Width: 8, Num: 1, Args: []int{b}}, "11001000"},
		{net.Node{Kind: net.Word, Width: 4, Args: []int{a}}, "0000"}, {net.Node{Kind: net.Word, Width: 8, Num: 1, Args: []int{r}}, "00000000"},
		{operation(net.Pick, 1, q, b), "1"}, {operation(net.Pick, 1, a, b), "1"}, {operation(net.Pick, 1, r, b), "0"}, {operation(net.Pick, 1, r, a), "0"}, {operation(net.Pick, 1, b, b), "0"},
		{net.Node{Kind: net.Slice, Width: 3, Lo: 1, Args: []int{a}}, "101"}, {net.Node{Kind: net.Slice, Width: 4, Lo: 4, Args: []int{r}}, "1001"},
		{un(bv.Neg, 4, a), "0110"}, {un(bv.Zero, 1, a), "0"}, {bin(bv.Sub, 4, q, a), "1100"}, {bin(bv.Sub, 4, a, q), "0100"}, {bin(bv.Slt, 1, a, q), "1"}, {bin(bv.Ult, 1, a, q), "0"},
		{operation(net.Mux, 4, r, a, q), "1010"}, {operation(net.Cat, 9, b, a, q), "110100110"}, {operation(net.Cat, 4, q), "0110"},
		{net.Node{Kind: net.Ext, Width: 6, Signed: true, Args: []int{a}}, "111010"}, {wide(6), "001010"}, {wide(2), "10"},
	} {
		n := usual(t)
		i, err := n.Add(x.node)
		if list := n.Eval(v); err != api.OK || list[i].Text() != x.want {
			t.Errorf("P17.3: %+v: %s, not %s", x.node, list[i].Text(), x.want)
		}
	}
	n := usual(t)
	zero, _ := n.Add(constant(4, 0))
	i, _ := n.Add(operation(net.Mux, 4, zero, a, q))
	if list := n.Eval(v); list[i].Text() != "0110" {
		t.Errorf("P17.3: a Mux of 0: %s", list[i].Text())
	}
}

// TestP17_3Words: a memory has no words but its own, however great a number is.
func TestP17_3Words(t *testing.T) {
	n := &net.Net{Inputs: []net.Pin{{Width: api.MaxWidth}}, Mems: []net.Mem{{Width: 3, Words: api.MaxWords}}}
	n.Add(net.Node{Kind: net.In, Width: api.MaxWidth})
	i, _ := n.Add(net.Node{Kind: net.Word, Width: 3, Args: []int{0}})
	words := slices.Repeat([]bv.Vec{vec(3, 7)}, api.MaxWords)
	words[0], words[api.MaxWords-1] = vec(3, 1), vec(3, 2)
	for _, x := range []struct {
		at   []uint64
		want string
	}{{[]uint64{0}, "001"}, {[]uint64{1}, "111"}, {[]uint64{63}, "010"}, {[]uint64{64}, "000"}, {[]uint64{1 << 63}, "000"}, {[]uint64{0, 1}, "000"}, {[]uint64{1, 1}, "000"}, {[]uint64{1<<64 - 1, 1<<64 - 1}, "000"}} {
		at, _ := bv.New(api.MaxWidth, x.at...)
		if list := n.Eval(net.Values{Ins: []bv.Vec{at}, Words: [][]bv.Vec{words}}); list[i].Text() != x.want {
			t.Errorf("P17.3: word %v: %s, not %s", x.at, list[i].Text(), x.want)
		}
	}
}

// TestP17_3AnyMemory: Eval and Cone return for all netlists and values.
func TestP17_3AnyMemory(t *testing.T) {
	pick := sample.Choice(rand.New(rand.NewPCG(17, 7)).IntN)
	for range 5000 {
		n := pick.Net()
		v := pick.Values(pick.Net())
		for range pick(20) {
			i := pick(len(n.Nodes))
			n.Nodes[i] = changed(n.Nodes[i], pick)
		}
		for i := range n.Mems {
			n.Mems[i].Words = odd(pick)
		}
		if list := n.Eval(v); len(list) != len(n.Nodes) {
			t.Fatalf("P17.3: %d values of %d nodes", len(list), len(n.Nodes))
		}
		n.Cone(pick(len(n.Nodes)), odd(pick))
		n.Check()
		if _, err := n.Add(constant(20, 12345)); err != api.OK {
			t.Fatalf("P17.1: error %d\n%+v", err, n)
		}
	}
	if list := (&net.Net{}).Eval(net.Values{}); len(list) != 0 {
		t.Errorf("P17.3: %v", list)
	}
}
