package synth

import (
	"sluicegate/api"
	"sluicegate/bv"
	"sluicegate/net"
)

// number returns the node of a number with a width.
func (b *builder) number(width int, n uint64) int {
	v, _ := bv.New(width, n)
	return b.add(net.Node{Kind: net.Const, Width: width, Val: v})
}

// checked returns x, which must have that width.
func (b *builder) checked(x, width int) int {
	if b.width(x) != width {
		b.fail(api.ErrWidth)
	}
	return x
}

// condition returns the node of a condition that may be always.
func (b *builder) condition(on int) int {
	if on == always {
		return b.number(1, 1)
	}
	return on
}

// both returns the conjunction of a condition and a bit.
func (b *builder) both(on, bit int) int {
	if on == always {
		return bit
	}
	return b.bin(bv.And, on, bit)
}

// truth returns one bit that tells whether x is not 0.
func (b *builder) truth(x int) int {
	if b.width(x) == 1 {
		return x
	}
	return b.un(bv.RedOr, x)
}

// choose returns x if on is not 0, and y otherwise.
func (b *builder) choose(on, x, y int) int {
	if on == always {
		return x
	}
	return b.add(net.Node{Kind: net.Mux, Width: b.width(x), Args: []int{on, x, y}})
}

func (b *builder) un(op, x int) int {
	width := 1
	if op == bv.Not {
		width = b.width(x)
	}
	return b.add(net.Node{Kind: net.Un, Op: op, Width: width, Args: []int{x}})
}

// bin returns an operation that is no comparison.
func (b *builder) bin(op, x, y int) int {
	return b.add(net.Node{Kind: net.Bin, Op: op, Width: b.width(x), Args: []int{x, y}})
}

// part returns bits of x, or none if their number is 0.
func (b *builder) part(x, lo, width int) int {
	if width == 0 {
		return none
	}
	if lo == 0 && width == b.width(x) {
		return x
	}
	return b.add(net.Node{Kind: net.Slice, Width: width, Lo: lo, Args: []int{x}})
}

// cat returns the concatenation of those nodes that are not none.
func (b *builder) cat(list ...int) int {
	x := net.Node{Kind: net.Cat}
	for _, i := range list {
		if i != none {
			x.Args = append(x.Args, i)
			x.Width += b.width(i)
		}
	}
	return b.add(x)
}

// wide returns x, which has at most that width, with zeros above it.
func (b *builder) wide(x, width int) int {
	if b.width(x) == width {
		return x
	}
	return b.add(net.Node{Kind: net.Ext, Width: width, Args: []int{x}})
}
