package maker_test

import (
	"fmt"
	"math/rand/v2"
	"testing"

	"sluicegate/api"
	"sluicegate/bv"
	"sluicegate/maker"
	"sluicegate/net"
	"sluicegate/sample"
)

func vec(width int, n uint64) bv.Vec {
	v, _ := bv.New(width, n)
	return v
}

// made returns a maker with the nodes of three inputs of 4 bits, 1 bit and 9 bits.
func made() *maker.Maker {
	m := &maker.Maker{Net: &net.Net{}}
	for i, width := range []int{4, 1, 9} {
		m.Net.Inputs = append(m.Net.Inputs, net.Pin{Width: width})
		m.Add(net.Node{Kind: net.In, Width: width, Num: i})
	}
	return m
}

const (
	a = iota
	b
	c
)

// TestNodes compares what each function returns with what it should be.
func TestNodes(t *testing.T) {
	pick := sample.Choice(rand.New(rand.NewPCG(30, 1)).IntN)
	for _, x := range []struct {
		what string
		node func(m *maker.Maker) int
		want func(a, b, c uint64) bv.Vec
	}{
		{"Number", func(m *maker.Maker) int { return m.Number(7, 200) }, func(a, b, c uint64) bv.Vec { return vec(7, 72) }},
		{"Both", func(m *maker.Maker) int { return m.Both(b, m.Truth(a)) }, func(a, b, c uint64) bv.Vec { return vec(1, b*min(a, 1)) }},
		{"Both, always", func(m *maker.Maker) int { return m.Both(maker.Always, b) }, func(a, b, c uint64) bv.Vec { return vec(1, b) }},
		{"Truth", func(m *maker.Maker) int { return m.Truth(c) }, func(a, b, c uint64) bv.Vec { return vec(1, min(c, 1)) }},
		{"Truth of a bit", func(m *maker.Maker) int { return m.Truth(b) }, func(a, b, c uint64) bv.Vec { return vec(1, b) }},
		{"Choose", func(m *maker.Maker) int { return m.Choose(b, a, m.Number(4, 3)) }, func(a, b, c uint64) bv.Vec { return vec(4, b*a+(1-b)*3) }},
		{"Choose, always", func(m *maker.Maker) int { return m.Choose(maker.Always, a, m.Number(4, 3)) }, func(a, b, c uint64) bv.Vec { return vec(4, a) }},
		{"Not", func(m *maker.Maker) int { return m.Un(bv.Not, a) }, func(a, b, c uint64) bv.Vec { return vec(4, ^a) }},
		{"Neg", func(m *maker.Maker) int { return m.Un(bv.Neg, a) }, func(a, b, c uint64) bv.Vec { return vec(4, -a) }},
		{"RedAnd", func(m *maker.Maker) int { return m.Un(bv.RedAnd, a) }, func(a, b, c uint64) bv.Vec { return vec(1, a/15) }},
		{"Sar", func(m *maker.Maker) int { return m.Bin(bv.Sar, a, a) }, func(a, b, c uint64) bv.Vec { v, _ := bv.Bin(bv.Sar, vec(4, a), vec(4, a)); return v }},
		{"Eq", func(m *maker.Maker) int { return m.Bin(bv.Eq, a, m.Number(4, 6)) }, func(a, b, c uint64) bv.Vec { v, _ := bv.Of(a == 6); return v }},
		{"Part", func(m *maker.Maker) int { return m.Part(c, 3, 5) }, func(a, b, c uint64) bv.Vec { return vec(5, c>>3) }},
		{"all of it", func(m *maker.Maker) int { return m.Part(c, 0, 9) }, func(a, b, c uint64) bv.Vec { return vec(9, c) }},
		{"Cat", func(m *maker.Maker) int { return m.Cat(b, maker.None, a, c) }, func(a, b, c uint64) bv.Vec { return vec(14, b<<13|a<<9|c) }},
		{"Wide", func(m *maker.Maker) int { return m.Wide(a, 9) }, func(a, b, c uint64) bv.Vec { return vec(9, a) }},
		{"as wide", func(m *maker.Maker) int { return m.Wide(c, 9) }, func(a, b, c uint64) bv.Vec { return vec(9, c) }},
	} {
		m := made()
		i := x.node(m)
		if m.Err != api.OK || i < 0 || m.Width(i) != x.want(0, 0, 0).Width() {
			t.Errorf("%s: node %d, error %d", x.what, i, m.Err)
			continue
		}
		for range 100 {
			p, q, r := uint64(pick(16)), uint64(pick(2)), uint64(pick(512))
			if got := m.Net.Eval(net.Values{Ins: []bv.Vec{vec(4, p), vec(1, q), vec(9, r)}})[i]; got != x.want(p, q, r) {
				t.Errorf("%s: %d, %d, %d: %s, not %s", x.what, p, q, r, got.Text(), x.want(p, q, r).Text())
			}
		}
	}
}

// TestNoNodes: what is there already needs no node.
func TestNoNodes(t *testing.T) {
	m := made()
	for _, got := range []int{m.Both(maker.Always, b) - b, m.Truth(b) - b, m.Choose(maker.Always, c, a) - c, m.Part(a, 0, 4), m.Wide(a, 4), m.Part(a, 2, 0) - maker.None, m.Width(maker.None)} {
		if got != 0 {
			t.Errorf("%d", got)
		}
	}
	if len(m.Net.Nodes) != 3 || m.Err != api.OK {
		t.Errorf("error %d, %v", m.Err, m.Net.Nodes)
	}
}

func TestRegister(t *testing.T) {
	m := made()
	x := net.Register{Name: "q", Width: 5, First: vec(5, 9)}
	first, second := m.Register(x), m.Register(x)
	if first != 3 || second != 4 || m.Width(first) != 5 || fmt.Sprint(m.Net.Regs) != fmt.Sprint([]net.Register{x, x}) {
		t.Errorf("%d, %d, %v", first, second, m.Net.Regs)
	}
}

// TestErrors: the first error is kept, and no nodes are added after it.
func TestErrors(t *testing.T) {
	m := made()
	if i := m.Part(a, 2, 3); i != maker.None || m.Err != api.ErrRange {
		t.Errorf("node %d, error %d", i, m.Err)
	}
	m.Fail(api.ErrInval)
	count := len(m.Net.Nodes)
	for i, got := range []int{
		m.Number(4, 1), m.Bin(bv.Add, a, a), m.Un(9, a), m.Cat(), m.Truth(maker.None), m.Choose(b, maker.None, a), m.Wide(maker.None, 5), m.Part(maker.None, 0, 4), m.Register(net.Register{Width: 4}), m.Add(m.Net.Nodes[a]),
	} {
		if got != maker.None {
			t.Errorf("%d: node %d", i, got)
		}
	}
	if m.Err != api.ErrRange || len(m.Net.Nodes) != count {
		t.Errorf("error %d, %v", m.Err, m.Net.Nodes)
	}
	m = made()
	if m.Fail(api.ErrWidth); m.Err != api.ErrWidth || m.Add(m.Net.Nodes[a]) != maker.None {
		t.Errorf("error %d", m.Err)
	}
}
