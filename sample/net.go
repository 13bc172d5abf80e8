package sample

import (
	"math"
	"strconv"

	"sluicegate/bv"
	"sluicegate/net"
)

// netMaker makes a netlist.
type netMaker struct {
	Choice
	*net.Net
}

// Net returns a valid netlist.
func (pick Choice) Net() *net.Net {
	m := &netMaker{Choice: pick, Net: &net.Net{}}
	m.add(net.Node{Kind: net.Const, Width: 3, Val: pick.Vec(3)})
	for i := range pick(4) {
		x := net.Pin{Name: "i" + strconv.Itoa(i), Width: pick.Width()}
		m.Inputs = append(m.Inputs, x)
		m.add(net.Node{Kind: net.In, Width: x.Width, Num: i})
	}
	for i := range pick(4) {
		x := net.Register{Name: "r" + strconv.Itoa(i), Width: pick.Width()}
		if pick.one(2) {
			x.First = pick.Vec(x.Width)
		}
		m.Regs = append(m.Regs, x)
		m.add(net.Node{Kind: net.Reg, Width: x.Width, Num: i})
	}
	for i := range pick(3) {
		m.Mems = append(m.Mems, net.Mem{Name: "m" + strconv.Itoa(i), Width: pick.Width(), Words: pick.from(1, 2, 3, 4, 7)})
	}
	for range 3 + pick(25) {
		m.add(m.operation(m.Width()))
	}
	m.ends()
	return m.Net
}

// ends adds what refers to nodes.
func (m *netMaker) ends() {
	for i, x := range m.Regs {
		m.Regs[i].Next = m.node(x.Width)
	}
	for i, x := range m.Mems {
		for range m.Choice(3) {
			port := net.Port{On: m.any(), At: m.any(), Val: m.node(x.Width)}
			m.Mems[i].Ports = append(m.Mems[i].Ports, port)
		}
	}
	for i := range m.Choice(4) {
		m.Outs = append(m.Outs, net.Out{Name: "o" + strconv.Itoa(i), Node: m.any()})
	}
	for i := range m.Choice(3) {
		m.Asserts = append(m.Asserts, net.Assert{Name: "p#" + strconv.Itoa(i), On: m.any(), Is: m.any()})
	}
}

func (m *netMaker) add(x net.Node) int {
	i, _ := m.Add(x)
	return i
}

// any returns a node.
func (m *netMaker) any() int { return m.Choice(len(m.Nodes)) }

// node returns a node of the given width.
func (m *netMaker) node(width int) int {
	i := m.any()
	all := m.Nodes[i].Width
	switch {
	case all < width:
		return m.add(net.Node{Kind: net.Ext, Width: width, Signed: m.one(2), Args: []int{i}})
	case all > width:
		return m.add(net.Node{Kind: net.Slice, Width: width, Lo: m.Choice(all - width + 1), Args: []int{i}})
	}
	return i
}

// operation returns a node that depends on others. If it can, it has the given
// width.
func (m *netMaker) operation(width int) net.Node {
	switch m.Choice(10) {
	case 0:
		if len(m.Mems) > 0 {
			i := m.Choice(len(m.Mems))
			return net.Node{Kind: net.Word, Width: m.Mems[i].Width, Num: i, Args: []int{m.any()}}
		}
	case 1:
		return net.Node{Kind: net.Pick, Width: 1, Args: []int{m.any(), m.any()}}
	case 2:
		return net.Node{Kind: net.Un, Op: m.from(bv.Not, bv.Neg), Width: width, Args: []int{m.node(width)}}
	case 3:
		return net.Node{Kind: net.Un, Op: bv.RedAnd + m.Choice(bv.Zero-bv.RedAnd+1), Width: 1, Args: []int{m.any()}}
	case 4, 5:
		return net.Node{Kind: net.Bin, Op: m.Choice(bv.Sar + 1), Width: width, Args: []int{m.node(width), m.node(width)}}
	case 6:
		return net.Node{Kind: net.Bin, Op: bv.Eq + m.Choice(bv.Sle-bv.Eq+1), Width: 1, Args: []int{m.node(width), m.node(width)}}
	case 7:
		return net.Node{Kind: net.Mux, Width: width, Args: []int{m.any(), m.node(width), m.node(width)}}
	case 8:
		return m.joined(width)
	}
	i := m.any()
	all := m.Nodes[i].Width
	if m.one(2) {
		lo := m.Choice(all)
		return net.Node{Kind: net.Slice, Width: 1 + m.Choice(all-lo), Lo: lo, Args: []int{i}}
	}
	return net.Node{Kind: net.Ext, Width: width, Signed: m.one(2), Args: []int{i}}
}

// joined returns a Cat of one or more nodes.
func (m *netMaker) joined(width int) net.Node {
	x := net.Node{Kind: net.Cat, Width: width}
	for width > 0 {
		part := 1 + m.Choice(width)
		x.Args = append(x.Args, m.node(part))
		width -= part
	}
	return x
}

// Values returns values for a netlist.
func (pick Choice) Values(n *net.Net) net.Values {
	var v net.Values
	for _, x := range n.Inputs {
		v.Ins = append(v.Ins, pick.Vec(x.Width))
	}
	for _, x := range n.Regs {
		v.Regs = append(v.Regs, pick.Vec(x.Width))
	}
	for _, x := range n.Mems {
		words := make([]bv.Vec, x.Words)
		for i := range words {
			words[i] = pick.Vec(x.Width)
		}
		v.Words = append(v.Words, words)
	}
	return v
}

// DisturbNet changes a number in a netlist, so that it may not be valid.
func (pick Choice) DisturbNet(n *net.Net) {
	x := &n.Nodes[pick(len(n.Nodes))]
	numbers := []*int{&x.Kind, &x.Op, &x.Width, &x.Num, &x.Lo}
	for i := range x.Args {
		numbers = append(numbers, &x.Args[i])
	}
	for i := range n.Regs {
		numbers = append(numbers, &n.Regs[i].Width, &n.Regs[i].Next)
	}
	for i := range n.Mems {
		m := &n.Mems[i]
		numbers = append(numbers, &m.Width, &m.Words)
		for j := range m.Ports {
			numbers = append(numbers, &m.Ports[j].On, &m.Ports[j].At, &m.Ports[j].Val)
		}
	}
	for i := range n.Asserts {
		numbers = append(numbers, &n.Asserts[i].On, &n.Asserts[i].Is)
	}
	*numbers[pick(len(numbers))] = pick.from(0, 1, 2, 3, 5, 100, -1, 1<<40, math.MinInt, math.MaxInt)
}
