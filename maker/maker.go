// Package maker adds nodes to netlists, for the layers that make them.
package maker

import (
	"sluicegate/api"
	"sluicegate/bv"
	"sluicegate/net"
)

const (
	// None is the node of something that has none.
	None = -1
	// Always is the condition that always holds.
	Always = -1
)

// Maker adds nodes to a netlist. It keeps the first error, after which it adds
// none.
type Maker struct {
	Net *net.Net
	Err api.Errno
}

// Fail keeps an error if it is the first one.
func (m *Maker) Fail(err api.Errno) {
	if m.Err == api.OK {
		m.Err = err
	}
}

// Add returns the number of a node, or None after an error.
func (m *Maker) Add(x net.Node) int {
	if m.Err != api.OK {
		return None
	}
	i, err := m.Net.Add(x)
	if err != api.OK {
		m.Fail(err)
		return None
	}
	return i
}

// Register adds a register and returns the node that is its value.
func (m *Maker) Register(x net.Register) int {
	m.Net.Regs = append(m.Net.Regs, x)
	return m.Add(net.Node{Kind: net.Reg, Width: x.Width, Num: len(m.Net.Regs) - 1})
}

// Width returns the width of a node, or 0 if there is none.
func (m *Maker) Width(i int) int {
	if i == None {
		return 0
	}
	return m.Net.Nodes[i].Width
}

// Number returns the node of a number with a width.
func (m *Maker) Number(width int, n uint64) int {
	v, _ := bv.New(width, n)
	return m.Add(net.Node{Kind: net.Const, Width: width, Val: v})
}

// Both returns the conjunction of a condition and a bit.
func (m *Maker) Both(on, bit int) int {
	if on == Always {
		return bit
	}
	return m.Bin(bv.And, on, bit)
}

// Truth returns one bit that tells whether x is not 0.
func (m *Maker) Truth(x int) int {
	if m.Width(x) == 1 {
		return x
	}
	return m.Un(bv.RedOr, x)
}

// Choose returns x if on is not 0, and y otherwise.
func (m *Maker) Choose(on, x, y int) int {
	if on == Always {
		return x
	}
	return m.Add(net.Node{Kind: net.Mux, Width: m.Width(x), Args: []int{on, x, y}})
}

// Un returns an operation on x.
func (m *Maker) Un(op, x int) int {
	width := 1
	if op <= bv.Neg {
		width = m.Width(x)
	}
	return m.Add(net.Node{Kind: net.Un, Op: op, Width: width, Args: []int{x}})
}

// Bin returns an operation on x and y.
func (m *Maker) Bin(op, x, y int) int {
	width := 1
	if op <= bv.Sar {
		width = m.Width(x)
	}
	return m.Add(net.Node{Kind: net.Bin, Op: op, Width: width, Args: []int{x, y}})
}

// Part returns bits of x, or None if their number is 0.
func (m *Maker) Part(x, lo, width int) int {
	if width == 0 {
		return None
	}
	if lo == 0 && width == m.Width(x) {
		return x
	}
	return m.Add(net.Node{Kind: net.Slice, Width: width, Lo: lo, Args: []int{x}})
}

// Cat returns the concatenation of those nodes that are not None.
func (m *Maker) Cat(list ...int) int {
	x := net.Node{Kind: net.Cat}
	for _, i := range list {
		if i != None {
			x.Args = append(x.Args, i)
			x.Width += m.Width(i)
		}
	}
	return m.Add(x)
}

// Wide returns x, which has at most that width, with zeros above it.
func (m *Maker) Wide(x, width int) int {
	if m.Width(x) == width {
		return x
	}
	return m.Add(net.Node{Kind: net.Ext, Width: width, Args: []int{x}})
}
